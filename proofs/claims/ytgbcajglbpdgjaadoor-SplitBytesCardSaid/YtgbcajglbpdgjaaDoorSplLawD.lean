/-
  LAYER 19's STATEMENTS: SplitBytes.
-/
import Derived.Test.YtgbcajglbpdgjaaDoorSplLawB
import Derived.Test.YtgbcajglbpdgjaaDoorFeedRef
namespace Go.Proofs.YtgbcajglbpdgjaaDoor
open Go.RowKit RleM SplM
set_option linter.unusedVariables false
set_option linter.unusedSimpArgs false
/-- A loop that puts bytes, keeps the blocks and counts what they hold. -/
def PutB (B : Nat) (wr : World) (t pb sb room : Nat) (l : List UInt8) (v : Value) (D : Nat) : Prop :=
  ∃ (c : UInt8) (n : Nat) (T : List UInt8) (QS : List Pc) (bv : Value) (tp : Option Nat), SureP l T c n QS ∧ IsSp B wr t pb sb room c n (runS room QS).2 bv tp ∧ OwnBk wr B v (runS room QS).1 ∧ ((runS room QS).1 = [] → v = .slice none 0 0) ∧ (∀ k, v.ownBlock = some k → ¬ ftP t pb sb bv k) ∧ (pack (runS room QS).1.flatten).length = D
theorem PutB.below {B : Nat} {wr w' : World} {t pb sb room : Nat} {l : List UInt8} {v : Value} {D : Nat} (h : PutB B wr t pb sb room l v D) (hb : Below wr.heap.size wr w') : PutB B w' t pb sb room l v D := by
  obtain ⟨c, n, T, QS, bv, tp, h1, h2, h3, h4, h5, h6⟩ := h
  exact ⟨c, n, T, QS, bv, tp, h1, h2.below hb, h3.below hb, h4, h5, h6⟩
theorem PutB.start {w : World} {t pb sb room : Nat} (h : IsSp w.heap.size w t pb sb room 0 0 [] (.slice none 0 0) none) : PutB w.heap.size w t pb sb room [] (.slice none 0 0) 0 :=
  ⟨0, 0, [], [], .slice none 0 0, none, SureP.zero, h, OwnBk.nil _ _, fun _ => rfl, fun k hk => (by cases hk), rfl⟩
theorem told_le {l T : List UInt8} {c : UInt8} {n : Nat} {QS : List Pc} (room : Nat) (h5 : 5 ≤ room) (h : SureP l T c n QS) : (pack (runS room QS).1.flatten).length + (pack (runS room QS).2).length = T.length ∧ T.length ≤ 2 * l.length := by
  have hg := good l
  rw [h.pieces] at hg
  have h1 := pack_small _ (good_left hg)
  have h2 := sure_flat h
  have h3 := (rightS room h5 QS).all
  rw [h.told]
  refine ⟨?_, by omega⟩
  rw [← List.length_append, ← pack_append, h3]
section
variable {B t pb sb room : Nat} {l : List UInt8} {v : Value} {D : Nat}
theorem put_b (x : UInt8) (w : World) (h : PutB B w t pb sb room l v D) (hT : Sizes w) (hg : 0 < B) (h5 : 5 ≤ room) (hr : room ≤ 900000) (hl : l.length ≤ 1000000) (hB : B ≤ w.heap.size) :
    Calls Tryd.prog 16 #[.pointer (some ⟨t, 0, none⟩), .int .u8 (x.toNat : Int)] w fun e w' => Below B w w' ∧
      ((e = .returned (.tuple #[.agg blk0, .bool false]) ∧ PutB B w' t pb sb room (l ++ [x]) v D) ∨
       (∃ b bs, e = .returned (.tuple #[.agg (blkV b), .bool true]) ∧ OwnBk w' B v bs ∧ bs.length ≤ 1000000 ∧ D + (pack b).length ≤ 2 * (l.length + 1) ∧ ∀ v' w'', OwnBk w'' B v' (bs ++ [b]) → Touch (fun k => v.ownBlock = some k ∨ w'.heap.size ≤ k) w' w'' → (∀ k, v'.ownBlock = some k → v.ownBlock = some k ∨ w'.heap.size ≤ k) → PutB B w'' t pb sb room (l ++ [x]) v' (D + (pack b).length))) := by
  obtain ⟨c, n, T, QS, bv, tp, h1, h2, h3, h4, h5', h6⟩ := h
  refine (sput_run x w h2 h1 hT hg h5 hr hl).mono ?_
  rintro e w' ⟨T2, QS2, s2, hp, bv2, tp2, k2, t2, o2⟩
  have hO : OwnBk w' B v (runS room QS).1 := h3.same (fun k hk => t2.block k (h3.lt k hk).2 (h5' k hk))
  have hD : ∀ k, v.ownBlock = some k → ¬ ftP t pb sb bv2 k := fun k hk hx => by
    have hlt := (h3.lt k hk).2
    rcases hx with e | e | e | e
    · exact h5' k hk (Or.inl e)
    · exact h5' k hk (Or.inr (Or.inl e))
    · exact h5' k hk (Or.inr (Or.inr (Or.inl e)))
    · rcases o2 k e with e | e
      · exact h5' k hk (Or.inr (Or.inr (Or.inr e)))
      · omega
  have hb : Below B w w' := t2.below hB (fun i hi => ftP_base h2 hi)
  refine ⟨hb, ?_⟩
  rcases hp with ⟨b, rfl, hq⟩ | ⟨rfl, hq⟩
  · have hDD : (pack (runS room QS2).1.flatten).length = D + (pack b).length := by
      rw [hq, List.flatten_append, pack_append, List.length_append, h6]
      simp
    refine Or.inr ⟨b, _, rfl, hO, ?_, ?_, ?_⟩
    · have hc := outs_le room h5 (good_left (by have h := good (l ++ [x]); rw [s2.pieces] at h; exact h)) (sure_flat s2)
      have e4 : (l ++ [x]).length = l.length + 1 := by simp
      rw [hq, List.length_append] at hc
      simp only [List.length_cons, List.length_nil] at hc
      omega
    · have hc := told_le room h5 s2
      have e4 : (l ++ [x]).length = l.length + 1 := by simp
      omega
    · intro v' w'' hO' hT' hv'
      have hX : ∀ k, ftP t pb sb bv2 k → ¬ (v.ownBlock = some k ∨ w'.heap.size ≤ k) := fun k hk e => by
        rcases e with e | e
        · exact hD k e hk
        · have := ftP_lt k2 hk; omega
      refine ⟨_, _, _, QS2, bv2, tp2, s2, k2.other hT' hX (fun k hk e => ?_), by rw [hq]; exact hO', fun e => by rw [hq] at e; simp at e, fun k hk hx => ?_, hDD⟩
      · rcases e with e | e
        · exact hO.notab h4 k2.sum k e hk
        · have := (k2.sum.lt.2 k hk).1; omega
      · rcases hv' k hk with e | e
        · exact hD k e hx
        · have := ftP_lt k2 hx; omega
  · exact Or.inl ⟨rfl, _, _, _, QS2, bv2, tp2, s2, k2, by rw [hq]; exact hO, by rw [hq]; exact h4, hD, by rw [hq]; exact h6⟩
end
set_option maxRecDepth 100000 in
set_option maxHeartbeats 16000000 in
theorem splitBytes.walk (s : ByteArray) (r : Int) (w : World) (hT : Sizes w) (hs : s.size ≤ maxLen) (hr : (Lit.int .i64 r).wf = true) :
    Calls Tryd.prog 5 #[.string s, .int .i64 r] w fun e w' => e = .returned (.bool true) ∧ Below w.heap.size w w' := by
  have HT := Lib.hid hT
  have HFV : Hid (∀ W, Below w.heap.size w W → Calls Tryd.prog 10 #[] W fun e w' => e = .returned (.bool true) ∧ Below W.heap.size W w') := Lib.hid (fun W hb => five19_any W (hT.below hb hT.lt))
  have HRM := Lib.hid (fun W => rroom19_any r W)
  clear hs hr hT
  by_cases hl : 300 < s.size
  · have hli : (300 : Int) < (s.size : Int) := by omega
    go_enter Tryd.func5, Tryd.ntmps5
    go_wp2_with fail
    refine (HFV.out _ (Below.refl _ _)).mono ?_
    rintro e w1 ⟨rfl, hb⟩
    have HB := Lib.hid hb
    clear hb
    go_wp2_with fail
    go_ret
    exact ⟨rfl, HB.out⟩
  · have hli : ¬ (300 : Int) < (s.size : Int) := by omega
    by_cases hok : 5 ≤ r ∧ r ≤ 900000
    · obtain ⟨R, rfl⟩ : ∃ R : Nat, r = (R : Int) := ⟨r.toNat, by omega⟩
      have h5 : 5 ≤ R := by omega
      have hR : R ≤ 900000 := by omega
      rw [decide_eq_true hok] at HRM
      have hln : s.data.toList.length = s.size := by simp
      have HN := Lib.hid (fun W => snew19_any R W h5 hR)
      have HPUT := Lib.hid (fun W (hB : Below w.heap.size w W) t pb sb i v D (hi : i < s.size) (h : PutB w.heap.size W t pb sb R (s.data.toList.take i) v D) => put_b s[i] W h (HT.out.below hB HT.out.lt) HT.out.lt h5 hR (by rw [List.length_take]; omega) hB.size)
      rw [show blk0 = #[.string ⟨#[]⟩, .int .u32 0, .int .i64 0] from rfl] at HPUT
      have HNX : Hid (∀ i (hi : i < s.size), s.data.toList.take i ++ [s[i]] = s.data.toList.take (i + 1)) := Lib.hid (fun i hi => (take_step hi).symm)
      have HLT : Hid (∀ i, i ≤ s.size → (s.data.toList.take i).length = i) := Lib.hid (fun i hi => by rw [List.length_take]; omega)
      have HSU := Lib.hid (fun W i (hi : i < s.size) T c n QS (h : SureP (s.data.toList.take (i + 1)) T c n QS) => sure_any (s.extract 0 (i + 1)) T c n QS W (by rw [ByteArray.size_extract]; omega) (by
        have e : (s.extract 0 (i + 1)).data.toList = s.data.toList.take (i + 1) := by
          rw [ByteArray.data_extract, Array.toList_extract, List.extract_eq_take_drop, Nat.sub_zero, List.drop_zero]
        rw [e]; exact h))
      have HTL := Lib.hid (fun (l T : List UInt8) c n QS (h : SureP l T c n QS) => told_le R h5 h)
      have HHE := Lib.hid (fun W t pb sb c n QS bv tp (h : IsSp w.heap.size W t pb sb R c n (runS R QS).2 bv tp) (h0 : n = 0 → c = 0) => sheld19_any W h h0 (by have := (rightS R h5 QS).now; omega))
      have HEND := Lib.hid (fun W (hB : Below w.heap.size w W) t pb sb c n T QS bv tp (h : IsSp w.heap.size W t pb sb R c n (runS R QS).2 bv tp) (hsu : SureP s.data.toList T c n QS) => send_run W h hsu (HT.out.below hB HT.out.lt) HT.out.lt h5 hR (by omega))
      have HEND2 := Lib.hid (fun W (hB : Below w.heap.size w W) t pb sb bv tp (h : IsSp w.heap.size W t pb sb R 0 0 [] bv tp) => send_run (l := []) (T := []) (QS := []) W h SureP.zero (HT.out.below hB HT.out.lt) HT.out.lt h5 hR (by simp))
      have HLE : Hid (∀ T c n QS, SureP s.data.toList T c n QS → (runS R QS).1.length ≤ 900000) := Lib.hid (fun T c n QS h => Nat.le_trans (outs_le R h5 (good_left (by have h2 := good s.data.toList; rw [h.pieces] at h2; exact h2)) (sure_flat h)) (by omega))
      have HRO := Lib.hid (fun W => rof19_any s R W h5 hR (by omega))
      obtain ⟨hb1, hb2⟩ := blks_facts R h5 s
      have HBL : Hid ((blks R s.data.toList).length ≤ 1000000) := Lib.hid (by omega)
      have HSM := Lib.hid (fun W v u B B2 (hv : OwnBk W B v (blks R s.data.toList)) (hu : OwnRb W B2 u (blks R s.data.toList)) => same19_any v u B B2 _ W hv hu (by omega) (fun b hb => by have := (hb2 b hb).1; omega))
      have HTK : Hid (s.data.toList.take s.size = s.data.toList) := Lib.hid (List.take_of_length_le (by omega))
      have hls : s.size ≤ 300 := by omega
      clear hok h5 hb1 hb2 hl hln
      go_enter Tryd.func5, Tryd.ntmps5
      go_wp2_with fail
      refine (HRM.out _).mono ?_
      rintro e w0 ⟨rfl, hw0⟩
      obtain rfl := hw0.symm
      clear hw0
      go_wp2_with fail
      refine (HN.out _).mono ?_
      rintro e w1 ⟨t, pb, sb, rfl, h1, hb1⟩
      have H1 := Lib.hid h1
      have HB1 := Lib.hid hb1
      clear h1 hb1
      go_wp2_with fail
      go_loopw [30, 7, 8] (fun vi vo vd wr => ∃ i D : Nat, vi = .int .i64 (i : Int) ∧ vd = .int .i64 (D : Int) ∧ i ≤ s.size ∧ D ≤ 700 ∧ PutB w.heap.size wr t pb sb R (s.data.toList.take i) vo D ∧ Below w.heap.size w wr) (fun vi _ _ _ => s.size - (intOf vi).toNat)
      case atStart => exact ⟨0, 0, rfl, rfl, Nat.zero_le _, Nat.zero_le _, ⟨0, 0, [], [], .slice none 0 0, none, SureP.zero, H1.out, OwnBk.nil _ _, fun _ => rfl, fun k hk => (by cases hk), rfl⟩, HB1.out⟩
      case round =>
        clear H1 HB1
        obtain ⟨i, D, rfl, rfl, hi, hD7, hP, hB⟩ := hrel
        have HP := Lib.hid hP
        have HB := Lib.hid hB
        clear hP hB
        by_cases his : i < s.size
        · have hii : (i : Int) < (s.size : Int) := by omega
          have HNI := Lib.hid (HNX.out i his)
          have hlti := HLT.out i hi
          have HPI := Lib.hid (HPUT.out wr HB.out t pb sb i _ _ his HP.out)
          rw [HNI.out, hlti] at HPI
          obtain ⟨x, hx⟩ : ∃ x : UInt8, s[i] = x := ⟨_, rfl⟩
          rw [hx] at HPI
          have hxi : (s[i].toNat : Int) = (x.toNat : Int) := by rw [hx]
          obtain ⟨S0, hS0⟩ : ∃ S0 : ByteArray, (⟨#[]⟩ : ByteArray) = S0 := ⟨_, rfl⟩
          have hemp : S0.toList.isEmpty = true := by rw [← hS0, ByteArray.toList_eq]; rfl
          rw [hS0] at HPI
          clear hx hS0 hlti
          go_wp2_with fail
          refine HPI.out.mono ?_
          rintro e w2 ⟨hb2, hor⟩
          have HB2 := Lib.hid (HB.out.trans hb2)
          rcases hor with ⟨rfl, hp2⟩ | ⟨b, bs, rfl, hO, hlen, hDb, hK⟩
          · have HP2 := Lib.hid hp2
            clear hb2 hp2
            go_upto_region 10 with fail
            have HP5 := Lib.hid (HP2.out.below ((Below.refl _ _).alloc (Nat.le_refl _) (.cells #[.string S0, .int .u32 0, .int .i64 0] 40)))
            have HB5 := Lib.hid (HB2.out.alloc HB2.out.size (.cells #[.string S0, .int .u32 0, .int .i64 0] 40))
            have e0 : (w2.alloc (.cells #[.string S0, .int .u32 0, .int .i64 0] 40)).cell? ⟨w2.heap.size, 0, none⟩ = some (.string S0) := by rw [cell_of_row _ _ 0 _ _ _ (heap_alloc_new _ _)]; rfl
            have e1 : (w2.alloc (.cells #[.string S0, .int .u32 0, .int .i64 0] 40)).cell? ⟨w2.heap.size, 1, none⟩ = some (.int .u32 0) := by rw [cell_of_row _ _ 1 _ _ _ (heap_alloc_new _ _)]; rfl
            have e2 : (w2.alloc (.cells #[.string S0, .int .u32 0, .int .i64 0] 40)).cell? ⟨w2.heap.size, 2, none⟩ = some (.int .i64 0) := by rw [cell_of_row _ _ 2 _ _ _ (heap_alloc_new _ _)]; rfl
            clear HP2
            obtain ⟨G2, hG2⟩ : ∃ G, w2.heap.size = G := ⟨_, rfl⟩
            rw [hG2] at e0 e1 e2 ⊢
            clear hG2
            generalize (w2.alloc (.cells #[.string S0, .int .u32 0, .int .i64 0] 40)) = W5 at *
            obtain ⟨c, n, T, QS, bv, tp, h1, h2, h3, h4, h5, h6⟩ := HP5.out
            have HS := Lib.hid (HSU.out W5 i his T c n QS h1)
            obtain ⟨P, hP⟩ : ∃ P, s.extract 0 (i + 1) = P := ⟨_, rfl⟩
            obtain ⟨hK, hTb⟩ := HTL.out _ _ _ _ _ h1
            rw [HLT.out (i + 1) (by omega)] at hTb
            obtain ⟨K, hKe⟩ : ∃ K, (pack (runS R QS).2).length = K := ⟨_, rfl⟩
            have hn4 := h1.le
            have h00 := fun e => (h1.none e).1
            have HH5 := Lib.hid (fun W' (hb : Below W5.heap.size W5 W') => HHE.out W' t pb sb c n QS bv tp (h2.below hb) h00)
            rw [h6, hKe] at hK
            rw [hKe] at HH5
            obtain ⟨Hn, hHn⟩ : ∃ Hn, K + min n 1 = Hn := ⟨_, rfl⟩
            rw [hHn] at HH5
            obtain ⟨ST, hST⟩ : ∃ ST : ByteArray, (⟨T.toArray⟩ : ByteArray) = ST := ⟨_, rfl⟩
            have hSTs : ST.size = T.length := by rw [← hST]; exact text_size _
            rw [hP, hST] at HS
            obtain ⟨TS, hTS⟩ : ∃ TS, ST.size = TS := ⟨_, rfl⟩
            have hTSi : (ST.size : Int) = (TS : Int) := by omega
            have hTSb : TS ≤ 700 := by omega
            have hDT : D ≤ TS := by omega
            obtain ⟨M, hM⟩ : ∃ M : Int, (if (1 : Int) < (n : Int) then (1 : Int) else (n : Int)) = M := ⟨_, rfl⟩
            have hM0 : 0 ≤ M := by rw [← hM]; split <;> omega
            have hM1 : M ≤ 1 := by rw [← hM]; split <;> omega
            have hHM : (Hn : Int) = (TS : Int) - (D : Int) + M := by rw [← hM]; split <;> omega
            have hz : ((Hn : Int) != (TS : Int) - (D : Int) + M) = false := by rw [hHM]; simp
            clear h1 h2 h3 h4 h5 h6 hK hTb hKe h00 hHn hST hSTs hTS hHM
            go_wp2_with fail
            refine HS.out.mono ?_
            rintro e w3 ⟨rfl, hb3⟩
            have HX3 := Lib.hid hb3
            clear hb3
            go_upto_region 16 with fail
            have HX6 : Hid (Below W5.heap.size W5 (w3.alloc (.cells #[.int .u8 (c.toNat : Int), .int .i64 (n : Int)] 44))) := Lib.hid (HX3.out.alloc HX3.out.size _)
            have f1 : (w3.alloc (.cells #[.int .u8 (c.toNat : Int), .int .i64 (n : Int)] 44)).cell? ⟨w3.heap.size, 1, none⟩ = some (.int .i64 (n : Int)) := by rw [cell_of_row _ _ 1 _ _ _ (heap_alloc_new _ _)]; rfl
            have hs6 : (w3.alloc (.cells #[.int .u8 (c.toNat : Int), .int .i64 (n : Int)] 44)).heap.size = w3.heap.size + 1 := by show (w3.heap.push _).size = _; simp
            obtain ⟨G3, hG3⟩ : ∃ G, w3.heap.size = G := ⟨_, rfl⟩
            rw [hG3] at f1 hs6 ⊢
            clear HX3
            generalize (w3.alloc (.cells #[.int .u8 (c.toNat : Int), .int .i64 (n : Int)] 44)) = W6 at *
            have u1 : ∀ sy : Beneath W6.heap.size W6, sy.val.cell? ⟨G3, 1, none⟩ = some (.int .i64 (n : Int)) := fun sy => Beneath.cell f1 (by show G3 < _; omega) sy
            clear f1 hs6 hG3
            refine wp_region_beneath W6.heap.size W6 (Below.refl _ _) (by kernel_rfl) (by kernel_rfl) ?_
            repeat (go_big_quiet_step (first
              | (go_at_call 18; rename_i sy; exact Calls.beneath sy (Nat.le_refl _) (HH5.out _ (HX6.out.trans (sy.is.mono HX6.out.size))))))
            refine wpQuiet_nil ?_
            rintro _ ⟨sy, rfl⟩
            have HX7 := Lib.hid (HX6.out.trans (sy.is.mono HX6.out.size))
            clear u1 HX6
            generalize sy.val = W7 at *
            go_wp2_with fail
            go_roundw
            case rel => exact ⟨i + 1, D, by go_num, rfl, by omega, by omega, HP5.out.below HX7.out, HB5.out.trans (HX7.out.mono HB5.out.size)⟩
            case measure => simp [intOf]; omega
          · obtain ⟨s1, hs1⟩ : ∃ s1 : ByteArray, (⟨(pack b).toArray⟩ : ByteArray) = s1 := ⟨_, rfl⟩
            have hs1l : s1.size = (pack b).length := by rw [← hs1]; exact text_size _
            obtain ⟨x1, hx1⟩ : ∃ x1 : Int, ((crcL (flat b)).toNat : Int) = x1 := ⟨_, rfl⟩
            obtain ⟨m1, hm1⟩ : ∃ m1 : Int, ((flat b).length : Int) = m1 := ⟨_, rfl⟩
            have hA : blkV b = #[.string s1, .int .u32 x1, .int .i64 m1] := by rw [← hs1, ← hx1, ← hm1]; rfl
            obtain ⟨D2, hD2⟩ : ∃ D2, D + (pack b).length = D2 := ⟨_, rfl⟩
            rw [hD2] at hK hDb
            have hD27 : D2 ≤ 700 := by omega
            have hadd : (D : Int) + (s1.size : Int) = (D2 : Int) := by omega
            have haddw : IntKind.i64.wrap (D2 : Int) = (D2 : Int) := IntWalk.i64_in _ (by omega)
            rw [hA]
            have HA := Lib.hid hA
            obtain ⟨oa, oc, rfl⟩ := hO.slice
            obtain ⟨L, hL⟩ : ∃ L, bs.length = L := ⟨_, rfl⟩
            rw [hL] at hK hO ⊢
            have HLL := Lib.hid (And.intro hL hlen)
            have HO0 := Lib.hid hO
            have HO := Lib.hid (hO.below ((Below.refl _ _).alloc (Nat.le_refl _) (.cells #[.string s1, .int .u32 x1, .int .i64 m1] 40)))
            have HK := Lib.hid hK
            have hbz : w.heap.size ≤ (w2.alloc (.cells #[.string s1, .int .u32 x1, .int .i64 m1] 40)).heap.size := by show w.heap.size ≤ (w2.heap.push _).size; have := HB2.out.size; simp; omega
            clear hb2 hO hK hlen hA hL hs1 hx1 hm1 hD2 hs1l hDb
            go_wp2_with (at_builtin; go_loud (refine push_bk _ rfl _ _ rfl w.heap.size (.slice oa L oc) bs b _ HA.out.symm HO.out rfl (w2.heap.size + 1) (by simp) rfl HLL.out.2 hbz ?_))
            intro v5 W5 hO5 hT5 hv5
            have hs2 : (w2.alloc (.cells #[.string s1, .int .u32 x1, .int .i64 m1] 40)).heap.size = w2.heap.size + 1 := by show (w2.heap.push _).size = _; simp
            have HT5 : Hid (Touch (fun k => (Value.slice oa L oc).ownBlock = some k ∨ w2.heap.size ≤ k) w2 W5) := Lib.hid ((Touch.ofBelow ((Below.refl w2.heap.size w2).alloc (Nat.le_refl _) (.cells #[.string s1, .int .u32 x1, .int .i64 m1] 40))).trans hT5 (fun k hk => Or.inl (Or.inl hk)))
            have HP5 := Lib.hid (HK.out v5 W5 hO5 HT5.out (fun k hk => (hv5 k hk).imp id (fun e => by omega)))
            have HB5 : Hid (Below w.heap.size w W5) := Lib.hid (HB2.out.trans (HT5.out.below HB2.out.size (fun k hk => by
              rcases hk with e | e
              · exact (HO.out.lt k e).1
              · exact Nat.le_trans HB2.out.size e)))
            have e0 : W5.cell? ⟨w2.heap.size, 0, none⟩ = some (.string s1) := by
              have hh := hT5.block w2.heap.size (by rw [hs2]; omega) (fun e => by have := (HO0.out.lt _ e).2; omega)
              rw [cell_of_row _ _ 0 _ _ _ (hh.trans (heap_alloc_new _ _))]; rfl
            obtain ⟨oa5, oc5, rfl⟩ := hO5.slice
            rw [show (bs ++ [b]).length = bs.length + 1 by simp] at HP5 ⊢
            clear hO5 hT5 hv5 hbz hs2 HT5 HK HO0 HO HA
            obtain ⟨G2, hG2⟩ : ∃ G, w2.heap.size = G := ⟨_, rfl⟩
            rw [hG2] at e0 ⊢
            clear hG2
            obtain ⟨c, n, T, QS, bv, tp, h1, h2, h3, h4, h5, h6⟩ := HP5.out
            have HS := Lib.hid (HSU.out W5 i his T c n QS h1)
            obtain ⟨P, hP⟩ : ∃ P, s.extract 0 (i + 1) = P := ⟨_, rfl⟩
            obtain ⟨hK, hTb⟩ := HTL.out _ _ _ _ _ h1
            rw [HLT.out (i + 1) (by omega)] at hTb
            obtain ⟨K, hKe⟩ : ∃ K, (pack (runS R QS).2).length = K := ⟨_, rfl⟩
            have hn4 := h1.le
            have h00 := fun e => (h1.none e).1
            have HH5 := Lib.hid (fun W' (hb : Below W5.heap.size W5 W') => HHE.out W' t pb sb c n QS bv tp (h2.below hb) h00)
            rw [h6, hKe] at hK
            rw [hKe] at HH5
            obtain ⟨Hn, hHn⟩ : ∃ Hn, K + min n 1 = Hn := ⟨_, rfl⟩
            rw [hHn] at HH5
            obtain ⟨ST, hST⟩ : ∃ ST : ByteArray, (⟨T.toArray⟩ : ByteArray) = ST := ⟨_, rfl⟩
            have hSTs : ST.size = T.length := by rw [← hST]; exact text_size _
            rw [hP, hST] at HS
            obtain ⟨TS, hTS⟩ : ∃ TS, ST.size = TS := ⟨_, rfl⟩
            have hTSi : (ST.size : Int) = (TS : Int) := by omega
            have hTSb : TS ≤ 700 := by omega
            have hDT : D2 ≤ TS := by omega
            obtain ⟨M, hM⟩ : ∃ M : Int, (if (1 : Int) < (n : Int) then (1 : Int) else (n : Int)) = M := ⟨_, rfl⟩
            have hM0 : 0 ≤ M := by rw [← hM]; split <;> omega
            have hM1 : M ≤ 1 := by rw [← hM]; split <;> omega
            have hHM : (Hn : Int) = (TS : Int) - (D2 : Int) + M := by rw [← hM]; split <;> omega
            have hz : ((Hn : Int) != (TS : Int) - (D2 : Int) + M) = false := by rw [hHM]; simp
            clear h1 h2 h3 h4 h5 h6 hK hTb hKe h00 hHn hST hSTs hTS hHM
            go_wp2_with fail
            refine HS.out.mono ?_
            rintro e w3 ⟨rfl, hb3⟩
            have HX3 := Lib.hid hb3
            clear hb3
            go_upto_region 16 with fail
            have HX6 : Hid (Below W5.heap.size W5 (w3.alloc (.cells #[.int .u8 (c.toNat : Int), .int .i64 (n : Int)] 44))) := Lib.hid (HX3.out.alloc HX3.out.size _)
            have f1 : (w3.alloc (.cells #[.int .u8 (c.toNat : Int), .int .i64 (n : Int)] 44)).cell? ⟨w3.heap.size, 1, none⟩ = some (.int .i64 (n : Int)) := by rw [cell_of_row _ _ 1 _ _ _ (heap_alloc_new _ _)]; rfl
            have hs6 : (w3.alloc (.cells #[.int .u8 (c.toNat : Int), .int .i64 (n : Int)] 44)).heap.size = w3.heap.size + 1 := by show (w3.heap.push _).size = _; simp
            obtain ⟨G3, hG3⟩ : ∃ G, w3.heap.size = G := ⟨_, rfl⟩
            rw [hG3] at f1 hs6 ⊢
            clear HX3
            generalize (w3.alloc (.cells #[.int .u8 (c.toNat : Int), .int .i64 (n : Int)] 44)) = W6 at *
            have u1 : ∀ sy : Beneath W6.heap.size W6, sy.val.cell? ⟨G3, 1, none⟩ = some (.int .i64 (n : Int)) := fun sy => Beneath.cell f1 (by show G3 < _; omega) sy
            clear f1 hs6 hG3
            refine wp_region_beneath W6.heap.size W6 (Below.refl _ _) (by kernel_rfl) (by kernel_rfl) ?_
            repeat (go_big_quiet_step (first
              | (go_at_call 18; rename_i sy; exact Calls.beneath sy (Nat.le_refl _) (HH5.out _ (HX6.out.trans (sy.is.mono HX6.out.size))))))
            refine wpQuiet_nil ?_
            rintro _ ⟨sy, rfl⟩
            have HX7 := Lib.hid (HX6.out.trans (sy.is.mono HX6.out.size))
            clear u1 HX6
            generalize sy.val = W7 at *
            go_wp2_with fail
            go_roundw
            case rel => exact ⟨i + 1, D2, by go_num, rfl, by omega, by omega, HP5.out.below HX7.out, HB5.out.trans (HX7.out.mono HB5.out.size)⟩
            case measure => simp [intOf]; omega
        · have hii : ¬ (i : Int) < (s.size : Int) := by omega
          have hie : i = s.size := by omega
          have hP := HP.out
          rw [hie, HTK.out] at hP
          obtain ⟨c, n, T, QS, bv, tp, h1, h2, h3, h4, h5, h6⟩ := hP
          have HE := Lib.hid (HEND.out wr HB.out t pb sb c n T QS bv tp h2 h1)
          have HO := Lib.hid h3
          have HD := Lib.hid h5
          have HI := Lib.hid h2
          have HNO := Lib.hid h4
          obtain ⟨oa, oc, hv⟩ := h3.slice
          obtain ⟨os, hos⟩ : ∃ os, (runS R QS).1 = os := ⟨_, rfl⟩
          rw [hos] at hv HO HE HNO
          obtain ⟨L, hL⟩ : ∃ L, os.length = L := ⟨_, rfl⟩
          rw [hL] at hv
          have HL := Lib.hid hL
          subst hv
          clear h1 h2 h3 h4 h5 h6 hie hos hL
          go_wp2_with fail
          refine HE.out.mono ?_
          rintro e w2 ⟨v2, bs2, rfl, hE, hbl⟩
          obtain ⟨bv', tp', hO2, hI2, hT2, hv2', hd2⟩ := hE
          have HO3 := Lib.hid (HO.out.same (fun k hk => hT2.block k (HO.out.lt k hk).2 (HD.out k hk)))
          have HO2 := Lib.hid hO2
          have HI2 := Lib.hid hI2
          have HV2 := Lib.hid hv2'
          have HB2 : Hid (Below w.heap.size w w2) := Lib.hid (HB.out.trans (hT2.below HB.out.size (fun k hk => ftP_base HI.out hk)))
          have HLB : Hid (os.length + bs2.length ≤ 1000000) := Lib.hid (by rw [← List.length_append, hbl]; exact HBL.out)
          have HBS := Lib.hid hbl
          obtain ⟨oa2, oc2, hv2⟩ := hO2.slice
          obtain ⟨L2, hL2⟩ : ∃ L2, bs2.length = L2 := ⟨_, rfl⟩
          rw [hL2] at hv2
          subst hv2
          have hb2 := HB2.out.size
          clear hO2 hI2 hT2 hd2 hbl hL2 hv2'
          go_wp2_with (at_builtin; go_loud (refine push_bks w2 rfl _ _ rfl w.heap.size wr.heap.size (.slice oa L oc) (.slice oa2 L2 oc2) os bs2 HO3.out HO2.out rfl rfl HLB.out hb2 ?_))
          intro v5 w5 hO5 hT5 hv5
          have HI5 : Hid (IsSp w.heap.size w5 t pb sb R 0 0 [] bv' tp') := Lib.hid (HI2.out.other hT5 (fun x hx e => by
            have hlt := (HO.out.lt x e).2
            have hd := HD.out x e
            rcases hx with h | h | h | h
            · exact hd (Or.inl h)
            · exact hd (Or.inr (Or.inl h))
            · exact hd (Or.inr (Or.inr (Or.inl h)))
            · rcases HV2.out x h with h | h
              · exact hd (Or.inr (Or.inr (Or.inr h)))
              · omega) (fun k hk e => HO3.out.notab HNO.out HI2.out.sum k e hk))
          rw [HBS.out] at hO5
          have HO5 := Lib.hid hO5
          have HB5 : Hid (Below w.heap.size w w5) := Lib.hid (HB2.out.trans (hT5.below hb2 (fun k hk => (HO3.out.lt k hk).1)))
          obtain ⟨oa5, oc5, rfl⟩ := hO5.slice
          clear hO5 hT5 hv5
          go_wp2_with fail
          refine (HRO.out _).mono ?_
          rintro e w6 ⟨u, rfl, hO6, hb6⟩
          have HO6 := Lib.hid (HO5.out.below hb6)
          have HU6 := Lib.hid hO6
          have HI6 := Lib.hid (HI5.out.below hb6)
          have HB6 := Lib.hid (HB5.out.trans (hb6.mono HB5.out.size))
          clear hO6 hb6
          go_wp2_with fail
          refine (HSM.out _ _ _ _ _ HO6.out HU6.out).mono ?_
          rintro e w7 ⟨rfl, hb7⟩
          have HI7 := Lib.hid (HI6.out.below hb7)
          have HB7 := Lib.hid (HB6.out.trans (hb7.mono HB6.out.size))
          have HH7 : Hid (Calls Tryd.prog 18 #[.pointer (some ⟨t, 0, none⟩)] w7 fun e w' => e = .returned (.int .i64 0) ∧ Below w7.heap.size w7 w') := Lib.hid (HHE.out w7 t pb sb 0 0 [] bv' tp' HI7.out (fun _ => rfl))
          clear hb7
          go_wp2_with fail
          refine HH7.out.mono ?_
          rintro e w8 ⟨rfl, hb8⟩
          have HI8 := Lib.hid (HI7.out.below hb8)
          have HB8 := Lib.hid (HB7.out.trans (hb8.mono HB7.out.size))
          have HE8 := Lib.hid (HEND2.out w8 HB8.out t pb sb bv' tp' HI8.out)
          clear hb8
          go_wp2_with fail
          refine HE8.out.mono ?_
          rintro e w9 ⟨v9, bs9, rfl, hE, hbl⟩
          obtain ⟨bv9, tp9, hO9, hI9, hT9, hv9', hd9⟩ := hE
          have HB9 : Hid (Below w.heap.size w w9) := Lib.hid (HB8.out.trans (hT9.below HB8.out.size (fun k hk => ftP_base HI8.out hk)))
          have hbn : bs9 = [] := by
            have e2 : blks R [] = [] := rfl
            rw [e2] at hbl
            exact (List.append_eq_nil_iff.1 hbl).2
          subst hbn
          obtain ⟨oa9, oc9, rfl⟩ := hO9.slice
          clear hO9 hI9 hT9 hv9' hd9 hbl
          go_wp2_with fail
          refine (HFV.out _ HB9.out).mono ?_
          rintro e wa ⟨rfl, hba⟩
          have HBa := Lib.hid (HB9.out.trans (hba.mono HB9.out.size))
          clear hba
          go_wp2_with fail
          go_ret
          exact ⟨rfl, HBa.out⟩
    · rw [decide_eq_false hok] at HRM
      clear hok
      go_enter Tryd.func5, Tryd.ntmps5
      go_wp2_with fail
      refine (HRM.out _).mono ?_
      rintro e w2 ⟨rfl, rfl⟩
      go_wp2_with fail
      refine (HFV.out _ (Below.refl _ _)).mono ?_
      rintro e w3 ⟨rfl, hb⟩
      have HB := Lib.hid hb
      clear hb
      go_wp2_with fail
      go_ret
      exact ⟨rfl, HB.out⟩
end Go.Proofs.YtgbcajglbpdgjaaDoor

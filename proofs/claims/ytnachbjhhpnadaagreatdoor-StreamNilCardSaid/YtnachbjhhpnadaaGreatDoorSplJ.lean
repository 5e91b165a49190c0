/-
  LAYER 19's CODE (package split): Of.
-/
import Derived.Test.YtnachbjhhpnadaaGreatDoorSplI
namespace Go.Proofs.YtnachbjhhpnadaaGreatDoor
open Go.RowKit RleM SplM
set_option linter.unusedVariables false
set_option linter.unusedSimpArgs false
theorem OwnBk.notab {W : World} {B : Nat} {v : Value} {bs : List (List Pc)} (h : OwnBk W B v bs) (hn : bs = [] → v = .slice none 0 0) {sb : Nat} {X : BitVec 32} {tp : Option Nat} (hs : SumT W sb X tp) : ∀ k, v.ownBlock = some k → tp ≠ some k := fun k hk e => by
  cases bs with
  | nil => rw [hn rfl] at hk; cases hk
  | cons b r =>
    obtain ⟨g, cap, hv, _, _, c0, _, _⟩ := h.cell (i := 0) (b := b) rfl
    rw [hv] at hk
    have e2 : g = k := by simpa [Value.ownBlock] using hk
    rw [e] at hs
    have hc := hs.2.1 0 (by omega)
    rw [← e2] at hc
    rw [show 0 * 3 = 0 from rfl] at c0
    rw [c0] at hc
    simp at hc
theorem TakP.sizes {B : Nat} {w w' : World} {t pb sb room : Nat} {c : UInt8} {n : Nat} {blk : List Pc} {bv : Value} (h : TakP B w w' t pb sb room c n blk bv) : w.heap.size ≤ w'.heap.size := by
  obtain ⟨_, _, _, ht, _⟩ := h
  exact ht.size
/-- A loop that puts bytes and keeps the blocks: l came, v are the blocks so far. -/
def PutSt (B : Nat) (wr : World) (t pb sb room : Nat) (l : List UInt8) (v : Value) : Prop :=
  ∃ (c : UInt8) (n : Nat) (T : List UInt8) (QS : List Pc) (bv : Value) (tp : Option Nat), SureP l T c n QS ∧ IsSp B wr t pb sb room c n (runS room QS).2 bv tp ∧ OwnBk wr B v (runS room QS).1 ∧ ((runS room QS).1 = [] → v = .slice none 0 0) ∧ (∀ k, v.ownBlock = some k → ¬ ftP t pb sb bv k)
theorem PutSt.below {B : Nat} {wr w' : World} {t pb sb room : Nat} {l : List UInt8} {v : Value} (h : PutSt B wr t pb sb room l v) (hb : Below wr.heap.size wr w') : PutSt B w' t pb sb room l v := by
  obtain ⟨c, n, T, QS, bv, tp, h1, h2, h3, h4, h5⟩ := h
  exact ⟨c, n, T, QS, bv, tp, h1, h2.below hb, h3.below hb, h4, h5⟩
section
variable {B t pb sb room : Nat} {l : List UInt8} {v : Value}
/-- Behind a Put: the state, or a block that is to be kept. -/
theorem put_state (x : UInt8) (w : World) (h : PutSt B w t pb sb room l v) (hT : Sizes w) (hg : 2 < B) (h5 : 5 ≤ room) (hr : room ≤ 900000) (hl : l.length ≤ 1000000) (hB : B ≤ w.heap.size) :
    Calls Tryz.prog 243 #[.pointer (some ⟨t, 0, none⟩), .int .u8 (x.toNat : Int)] w fun e w' => Below B w w' ∧
      ((e = .returned (.tuple #[.agg blk0, .bool false]) ∧ PutSt B w' t pb sb room (l ++ [x]) v) ∨
       (∃ b bs, e = .returned (.tuple #[.agg (blkV b), .bool true]) ∧ OwnBk w' B v bs ∧ bs.length ≤ 1000000 ∧ ∀ v' w'', OwnBk w'' B v' (bs ++ [b]) → Touch (fun k => v.ownBlock = some k ∨ w'.heap.size ≤ k) w' w'' → (∀ k, v'.ownBlock = some k → v.ownBlock = some k ∨ w'.heap.size ≤ k) → PutSt B w'' t pb sb room (l ++ [x]) v')) := by
  obtain ⟨c, n, T, QS, bv, tp, h1, h2, h3, h4, h5'⟩ := h
  refine (sput_run x w h2 h1 hT hg h5 hr hl).mono ?_
  rintro e w' ⟨T2, QS2, s2, hp, bv2, tp2, k2, t2, o2⟩
  have hO : OwnBk w' B v (runS room QS).1 := h3.same (fun k hk => t2.block k (h3.lt k hk).2 (h5' k hk))
  have hD : ∀ k, v.ownBlock = some k → ¬ ftP t pb sb bv2 k := fun k hk hx => by
    have hlt := (h3.lt k hk).2
    rcases hx with e | e | e | e
    · exact h5' k hk (Or.inl e)
    · exact h5' k hk (Or.inr (Or.inl e))
    · exact h5' k hk (Or.inr (Or.inr (Or.inl e)))
    · rcases o2 k e with e | e
      · exact h5' k hk (Or.inr (Or.inr (Or.inr e)))
      · omega
  have hb : Below B w w' := t2.below hB (fun i hi => ftP_base h2 hi)
  refine ⟨hb, ?_⟩
  rcases hp with ⟨b, rfl, hq⟩ | ⟨rfl, hq⟩
  · refine Or.inr ⟨b, _, rfl, hO, ?_, ?_⟩
    · have hc := outs_le room h5 (good_left (by have h := good (l ++ [x]); rw [s2.pieces] at h; exact h)) (sure_flat s2)
      have e4 : (l ++ [x]).length = l.length + 1 := by simp
      rw [hq, List.length_append] at hc
      simp only [List.length_cons, List.length_nil] at hc
      omega
    · intro v' w'' hO' hT' hv'
      have hX : ∀ k, ftP t pb sb bv2 k → ¬ (v.ownBlock = some k ∨ w'.heap.size ≤ k) := fun k hk e => by
        rcases e with e | e
        · exact hD k e hk
        · have := ftP_lt k2 hk; omega
      refine ⟨_, _, _, QS2, bv2, tp2, s2, k2.other hT' hX (fun k hk e => ?_), by rw [hq]; exact hO', fun e => by rw [hq] at e; simp at e, fun k hk hx => ?_⟩
      · rcases e with e | e
        · exact hO.notab h4 k2.sum k e hk
        · have := (k2.sum.lt.2 k hk).1; omega
      · rcases hv' k hk with e | e
        · exact hD k e hx
        · have := ftP_lt k2 hx; omega
  · exact Or.inl ⟨rfl, _, _, _, QS2, bv2, tp2, s2, k2, by rw [hq]; exact hO, by rw [hq]; exact h4, hD⟩
theorem PutSt.start {w : World} {t pb sb room : Nat} (h : IsSp B w t pb sb room 0 0 [] (.slice none 0 0) none) : PutSt B w t pb sb room [] (.slice none 0 0) :=
  ⟨0, 0, [], [], .slice none 0 0, none, SureP.zero, h, OwnBk.nil _ _, fun _ => rfl, fun k hk => (by cases hk)⟩
set_option maxHeartbeats 1000000 in
theorem sof19_bad (s : ByteArray) (r : Int) (w : World) (h : r < 5 ∨ 900000 < r) : Calls Tryz.prog 204 #[.string s, .int .i64 r] w fun e w' => e = .returned (.tuple #[.slice none 0 0, .int .i64 1]) ∧ w' = w := by
  have HN := Lib.hid (snew19_bad r w h)
  clear h
  go_enter Tryz.func204, Tryz.ntmps204
  go_wp2_with fail
  refine HN.out.mono ?_
  rintro e w1 ⟨rfl, rfl⟩
  go_wp2_with fail
  go_ret2
  exact ⟨rfl, rfl⟩
set_option maxRecDepth 100000 in
set_option maxHeartbeats 8000000 in
theorem sof19_any (s : ByteArray) (room : Nat) (w : World) (h5 : 5 ≤ room) (hr : room ≤ 900000) (hs : s.size ≤ 900000) (hT : Sizes w) : Calls Tryz.prog 204 #[.string s, .int .i64 (room : Int)] w fun e w' => ∃ v, e = .returned (.tuple #[v, .int .i64 0]) ∧ OwnBk w' w.heap.size v (blks room s.data.toList) ∧ Below w.heap.size w w' := by
  have HN := Lib.hid (snew19_any room w h5 hr)
  have HT := Lib.hid hT
  have hl : s.data.toList.length = s.size := by simp
  have HPUT := Lib.hid (fun W (hB : Below w.heap.size w W) t pb sb i v (hi : i < s.size) (h : PutSt w.heap.size W t pb sb room (s.data.toList.take i) v) => put_state s[i] W h (hT.below hB hT.lt) hT.lt h5 hr (by rw [List.length_take]; omega) hB.size)
  rw [show blk0 = #[.string ⟨#[]⟩, .int .u32 0, .int .i64 0] from rfl] at HPUT
  have HNX : Hid (∀ i (hi : i < s.size), s.data.toList.take i ++ [s[i]] = s.data.toList.take (i + 1)) := Lib.hid (fun i hi => (take_step hi).symm)
  have HEND := Lib.hid (fun W (hB : Below w.heap.size w W) t pb sb c n T QS bv tp (h : IsSp w.heap.size W t pb sb room c n (runS room QS).2 bv tp) (hsu : SureP s.data.toList T c n QS) => send_run W h hsu (hT.below hB hT.lt) hT.lt h5 hr (by omega))
  have HLE : Hid (∀ T c n QS, SureP s.data.toList T c n QS → (runS room QS).1.length ≤ 900000) := Lib.hid (fun T c n QS h => Nat.le_trans (outs_le room h5 (good_left (by have h2 := good s.data.toList; rw [h.pieces] at h2; exact h2)) (sure_flat h)) (by omega))
  have HBL : Hid ((blks room s.data.toList).length ≤ 1000000) := Lib.hid (by
    have h1 := bl_count (blks room s.data.toList) (fun b hb => by
      unfold blks at hb
      exact (endS_ok (rightS room h5 (pieces s.data.toList)) b hb).1)
    have h2 : (blks room s.data.toList).flatten = pieces s.data.toList := by
      unfold blks
      exact endS_flat (rightS room h5 (pieces s.data.toList))
    have h3 := pc_count (pieces s.data.toList) (fun p hp => (good_mem (good s.data.toList) hp).1)
    rw [flat_pieces] at h3
    rw [h2] at h1
    omega)
  have HTK : Hid (s.data.toList.take s.size = s.data.toList) := Lib.hid (List.take_of_length_le (by omega))
  clear hT hl h5 hr
  go_enter Tryz.func204, Tryz.ntmps204
  go_wp2_with fail
  refine HN.out.mono ?_
  rintro e w1 ⟨t, pb, sb, rfl, h1, hb1⟩
  have H1 := Lib.hid (PutSt.start h1)
  have HB1 := Lib.hid hb1
  clear h1 hb1
  go_wp2_with fail
  go_loopw [22, 8] (fun vi vo wr => ∃ i : Nat, vi = .int .i64 (i : Int) ∧ i ≤ s.size ∧ PutSt w.heap.size wr t pb sb room (s.data.toList.take i) vo ∧ Below w.heap.size w wr) (fun vi _ _ => s.size - (intOf vi).toNat)
  case atStart => exact ⟨0, rfl, Nat.zero_le _, H1.out, HB1.out⟩
  case round =>
    clear H1 HB1
    obtain ⟨i, rfl, hi, hP, hB⟩ := hrel
    have HP := Lib.hid hP
    have HB := Lib.hid hB
    clear hP hB
    by_cases his : i < s.size
    · have hii : (i : Int) < (s.size : Int) := by omega
      have HNI := Lib.hid (HNX.out i his)
      have HPI := Lib.hid (HPUT.out wr HB.out t pb sb i _ his HP.out)
      rw [HNI.out] at HPI
      obtain ⟨x, hx⟩ : ∃ x : UInt8, s[i] = x := ⟨_, rfl⟩
      rw [hx] at HPI
      have hxi : (s[i].toNat : Int) = (x.toNat : Int) := by rw [hx]
      clear hx
      go_wp2_with fail
      refine HPI.out.mono ?_
      rintro e w2 ⟨hb2, hor⟩
      have HB2 := Lib.hid (HB.out.trans hb2)
      rcases hor with ⟨rfl, hp2⟩ | ⟨b, bs, rfl, hO, hlen, hK⟩
      · have HP2 := Lib.hid hp2
        clear hb2 hp2
        go_wp2_with fail
        go_roundw
        case rel => exact ⟨i + 1, by go_num, by omega, HP2.out.below ((Below.refl _ _).alloc (Nat.le_refl _) _), HB2.out.alloc HB2.out.size _⟩
        case measure => simp [intOf]; omega
      · obtain ⟨s1, x1, m1, hA⟩ : ∃ (s1 : ByteArray) (x1 m1 : Int), blkV b = #[.string s1, .int .u32 x1, .int .i64 m1] := ⟨_, _, _, rfl⟩
        rw [hA]
        have HA := Lib.hid hA
        obtain ⟨oa, oc, rfl⟩ := hO.slice
        obtain ⟨L, hL⟩ : ∃ L, bs.length = L := ⟨_, rfl⟩
        rw [hL] at hK hO ⊢
        have HLL := Lib.hid (And.intro hL hlen)
        have HO := Lib.hid (hO.below ((Below.refl _ _).alloc (Nat.le_refl _) (.cells #[.string s1, .int .u32 x1, .int .i64 m1] 265)))
        have HK := Lib.hid hK
        have hbz : w.heap.size ≤ (w2.alloc (.cells #[.string s1, .int .u32 x1, .int .i64 m1] 265)).heap.size := by show w.heap.size ≤ (w2.heap.push _).size; have := HB2.out.size; simp; omega
        clear hb2 hO hK hlen hA hL
        go_wp2_with (at_builtin; go_loud (refine push_bk _ rfl _ _ rfl w.heap.size (.slice oa L oc) bs b _ HA.out.symm HO.out rfl (w2.heap.size + 1) (by simp) rfl HLL.out.2 hbz ?_))
        intro v5 w5 hO5 hT5 hv5
        have hs2 : (w2.alloc (.cells #[.string s1, .int .u32 x1, .int .i64 m1] 265)).heap.size = w2.heap.size + 1 := by show (w2.heap.push _).size = _; simp
        have HT5 : Hid (Touch (fun k => (Value.slice oa L oc).ownBlock = some k ∨ w2.heap.size ≤ k) w2 w5) := Lib.hid ((Touch.ofBelow ((Below.refl w2.heap.size w2).alloc (Nat.le_refl _) (.cells #[.string s1, .int .u32 x1, .int .i64 m1] 265))).trans hT5 (fun k hk => Or.inl (Or.inl hk)))
        have HP5 := Lib.hid (HK.out v5 w5 hO5 HT5.out (fun k hk => (hv5 k hk).imp id (fun e => by omega)))
        have HB5 : Hid (Below w.heap.size w w5) := Lib.hid (HB2.out.trans (HT5.out.below HB2.out.size (fun k hk => by
          rcases hk with e | e
          · exact (HO.out.lt k e).1
          · exact Nat.le_trans HB2.out.size e)))
        obtain ⟨oa5, oc5, rfl⟩ := hO5.slice
        clear hO5 hT5 hv5 hbz hs2
        go_wp2_with fail
        go_roundw
        case rel => exact ⟨i + 1, by go_num, by omega, HP5.out, HB5.out⟩
        case measure => simp [intOf]; omega
    · have hii : ¬ (i : Int) < (s.size : Int) := by omega
      have hie : i = s.size := by omega
      have hP := HP.out
      rw [hie, HTK.out] at hP
      obtain ⟨c, n, T, QS, bv, tp, h1, h2, h3, h4, h5⟩ := hP
      have HE := Lib.hid (HEND.out wr HB.out t pb sb c n T QS bv tp h2 h1)
      have HO := Lib.hid h3
      have HD := Lib.hid h5
      have HI := Lib.hid h2
      obtain ⟨oa, oc, hv⟩ := h3.slice
      obtain ⟨os, hos⟩ : ∃ os, (runS room QS).1 = os := ⟨_, rfl⟩
      rw [hos] at hv HO HE
      obtain ⟨L, hL⟩ : ∃ L, os.length = L := ⟨_, rfl⟩
      rw [hL] at hv
      have HL := Lib.hid hL
      subst hv
      clear h1 h2 h3 h4 h5 hie hos hL
      go_wp2_with fail
      refine HE.out.mono ?_
      rintro e w2 ⟨v2, bs2, rfl, hE, hbl⟩
      obtain ⟨bv', tp', hO2, hI2, hT2, hv2, hd2⟩ := hE
      have HO3 := Lib.hid (HO.out.same (fun k hk => hT2.block k (HO.out.lt k hk).2 (HD.out k hk)))
      have HO2 := Lib.hid hO2
      have HB2 : Hid (Below w.heap.size w w2) := Lib.hid (HB.out.trans (hT2.below HB.out.size (fun k hk => ftP_base HI.out hk)))
      have HLB : Hid (os.length + bs2.length ≤ 1000000) := Lib.hid (by rw [← List.length_append, hbl]; exact HBL.out)
      have HBS := Lib.hid hbl
      obtain ⟨oa2, oc2, hv2⟩ := hO2.slice
      obtain ⟨L2, hL2⟩ : ∃ L2, bs2.length = L2 := ⟨_, rfl⟩
      rw [hL2] at hv2
      subst hv2
      have hb2 := HB2.out.size
      clear hO2 hI2 hT2 hd2 hbl hL2
      go_wp2_with (at_builtin; go_loud (refine push_bks w2 rfl _ _ rfl w.heap.size wr.heap.size (.slice oa L oc) (.slice oa2 L2 oc2) os bs2 HO3.out HO2.out rfl rfl HLB.out hb2 ?_))
      intro v5 w5 hO5 hT5 hv5
      rw [HBS.out] at hO5
      have HO5 := Lib.hid hO5
      have HB5 : Hid (Below w.heap.size w w5) := Lib.hid (HB2.out.trans (hT5.below hb2 (fun k hk => (HO3.out.lt k hk).1)))
      obtain ⟨oa5, oc5, rfl⟩ := hO5.slice
      clear hO5 hT5 hv5
      go_wp2_with fail
      go_ret2
      exact ⟨_, rfl, HO5.out, HB5.out⟩
end
end Go.Proofs.YtnachbjhhpnadaaGreatDoor

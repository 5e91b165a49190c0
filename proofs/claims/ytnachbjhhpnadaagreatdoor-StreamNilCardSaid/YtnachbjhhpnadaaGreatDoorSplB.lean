/-
  LAYER 19's CODE (package split): a splitter on the heap; add, cut.
-/
import Derived.Test.YtnachbjhhpnadaaGreatDoorSplA
import Derived.Test.YtnachbjhhpnadaaGreatDoorSplMath
import Derived.Test.YtnachbjhhpnadaaGreatDoorFeedP
import Derived.Test.YtnachbjhhpnadaaGreatDoorRleG
import Derived.Test.YtnachbjhhpnadaaGreatDoorBitsRB
namespace Go.Proofs.YtnachbjhhpnadaaGreatDoor
open Go.RowKit RleM SplM
set_option linter.unusedVariables false
set_option linter.unusedSimpArgs false
/-- The sum of bytes. -/
def crcL (l : List UInt8) : BitVec 32 := CrcM.crc l
/-- A splitter at block t; its packer at pb, its sum at sb; the block blk was begun. -/
structure IsSp (B : Nat) (w : World) (t pb sb room : Nat) (c : UInt8) (n : Nat) (blk : List Pc) (bv : Value) (tp : Option Nat) : Prop where
  obj : w.heap[t]? = some (.cells #[.int .i64 (room : Int), .pointer (some ⟨pb, 0, none⟩), bv, .pointer (some ⟨sb, 0, none⟩), .int .i64 ((flat blk).length : Int)] 273 (0, 0))
  pk : IsPacker w pb c n
  sum : SumT w sb (crcL (flat blk)) tp
  row : IsRowB w bv (pack blk)
  ne : t ≠ pb ∧ t ≠ sb ∧ pb ≠ sb
  lap : ∀ k, bv.ownBlock = some k → k ≠ t ∧ k ≠ pb ∧ k ≠ sb ∧ tp ≠ some k
  tab : ∀ k, tp = some k → k ≠ t ∧ k ≠ pb
  base : B ≤ t ∧ B ≤ pb ∧ B ≤ sb
  bown : ∀ k, bv.ownBlock = some k → B ≤ k
/-- What a splitter may turn. -/
def ftP (t pb sb : Nat) (bv : Value) (x : Nat) : Prop := x = t ∨ x = pb ∨ x = sb ∨ bv.ownBlock = some x
section
variable {B t pb sb room : Nat} {w w' : World} {c : UInt8} {n : Nat} {blk : List Pc} {bv : Value} {tp : Option Nat}
theorem IsSp.cells (h : IsSp B w t pb sb room c n blk bv tp) : w.cell? ⟨t, 0, none⟩ = some (.int .i64 (room : Int)) ∧ w.cell? ⟨t, 1, none⟩ = some (.pointer (some ⟨pb, 0, none⟩)) ∧ w.cell? ⟨t, 2, none⟩ = some bv ∧ w.cell? ⟨t, 3, none⟩ = some (.pointer (some ⟨sb, 0, none⟩)) ∧ w.cell? ⟨t, 4, none⟩ = some (.int .i64 ((flat blk).length : Int)) := by
  have h := h.obj
  refine ⟨?_, ?_, ?_, ?_, ?_⟩ <;> (rw [cell_of_row _ _ _ _ _ _ h]; rfl)
theorem IsSp.frozen (h : IsSp B w t pb sb room c n blk bv tp) (i : Nat) : w.frozen? ⟨t, i, none⟩ = false := frozen_of_row _ _ _ _ _ h.obj
theorem IsSp.lt (h : IsSp B w t pb sb room c n blk bv tp) : t < w.heap.size := (Array.getElem?_eq_some_iff.1 h.obj).1
theorem IsSp.other (h : IsSp B w t pb sb room c n blk bv tp) {X : Nat → Prop} (ht : Touch X w w') (h1 : ∀ x, ftP t pb sb bv x → ¬ X x) (h2 : ∀ k, tp = some k → ¬ X k) : IsSp B w' t pb sb room c n blk bv tp :=
  ⟨(ht.block t h.lt (h1 t (Or.inl rfl))).trans h.obj, h.pk.other ht (h1 pb (Or.inr (Or.inl rfl))), h.sum.other ht (h1 sb (Or.inr (Or.inr (Or.inl rfl)))) h2, h.row.other (fun k hk => ht.block k (h.row.lt k hk) (h1 k (Or.inr (Or.inr (Or.inr hk))))), h.ne, h.lap, h.tab, h.base, h.bown⟩
theorem IsSp.below (h : IsSp B w t pb sb room c n blk bv tp) (hb : Below w.heap.size w w') : IsSp B w' t pb sb room c n blk bv tp :=
  h.other (Touch.ofBelow (S := fun _ => False) hb) (fun _ _ e => e) (fun _ _ e => e)
theorem ftP_lt (h : IsSp B w t pb sb room c n blk bv tp) {x : Nat} (hx : ftP t pb sb bv x) : x < w.heap.size := by
  rcases hx with rfl | rfl | rfl | hx
  · exact h.lt
  · exact h.pk.lt
  · exact h.sum.lt.1
  · exact h.row.lt x hx
theorem ftP_base (h : IsSp B w t pb sb room c n blk bv tp) {x : Nat} (hx : ftP t pb sb bv x) : B ≤ x := by
  rcases hx with rfl | rfl | rfl | hx
  · exact h.base.1
  · exact h.base.2.1
  · exact h.base.2.2
  · exact h.bown x hx
/-- The packer alone has turned. -/
theorem IsSp.packed (h : IsSp B w t pb sb room c n blk bv tp) (ht : Touch (· = pb) w w') {c' : UInt8} {n' : Nat} (hp : IsPacker w' pb c' n') : IsSp B w' t pb sb room c' n' blk bv tp :=
  ⟨(ht.block t h.lt h.ne.1).trans h.obj, hp, h.sum.other ht h.ne.2.2.symm (fun k hk => (h.tab k hk).2), h.row.other (fun k hk => ht.block k (h.row.lt k hk) (h.lap k hk).2.1), h.ne, h.lap, h.tab, h.base, h.bown⟩
/-- The body is another row. -/
theorem IsSp.body (h : IsSp B w t pb sb room c n blk bv tp) {w1 : World} {v' : Value} {body : List UInt8} (ht : Touch (fun k => bv.ownBlock = some k) w w1) (hr : IsRowB w1 v' body) (hv : ∀ k, v'.ownBlock = some k → bv.ownBlock = some k ∨ w.heap.size ≤ k) :
    (w1.setCell ⟨t, 2, none⟩ v').heap[t]? = some (.cells #[.int .i64 (room : Int), .pointer (some ⟨pb, 0, none⟩), v', .pointer (some ⟨sb, 0, none⟩), .int .i64 ((flat blk).length : Int)] 273 (0, 0)) ∧
    IsPacker (w1.setCell ⟨t, 2, none⟩ v') pb c n ∧ SumT (w1.setCell ⟨t, 2, none⟩ v') sb (crcL (flat blk)) tp ∧ IsRowB (w1.setCell ⟨t, 2, none⟩ v') v' body ∧ (∀ k, v'.ownBlock = some k → k ≠ t ∧ k ≠ pb ∧ k ≠ sb ∧ tp ≠ some k) ∧ Touch (ftP t pb sb bv) w (w1.setCell ⟨t, 2, none⟩ v') := by
  have hlap : ∀ k, v'.ownBlock = some k → k ≠ t ∧ k ≠ pb ∧ k ≠ sb ∧ tp ≠ some k := fun k hk => by
    rcases hv k hk with e | e
    · exact h.lap k e
    · have l1 := h.lt
      have l2 := h.pk.lt
      have l3 := h.sum.lt
      refine ⟨by omega, by omega, by omega, fun e2 => ?_⟩
      have := (l3.2 k e2).1
      omega
  have o1 : w1.heap[t]? = some (.cells #[.int .i64 (room : Int), .pointer (some ⟨pb, 0, none⟩), bv, .pointer (some ⟨sb, 0, none⟩), .int .i64 ((flat blk).length : Int)] 273 (0, 0)) := (ht.block t h.lt (fun e => (h.lap t e).1 rfl)).trans h.obj
  have t2 : Touch (· = t) w1 (w1.setCell ⟨t, 2, none⟩ v') := touch_cell (Touch.refl _ _)
  refine ⟨heap_setCell_same _ _ 2 _ _ _ o1, (h.pk.other ht (fun e => (h.lap pb e).2.1 rfl)).other t2 h.ne.1.symm, (h.sum.other ht (fun e => (h.lap sb e).2.2.1 rfl) (fun k hk e => (h.lap k e).2.2.2 hk)).other t2 h.ne.2.1.symm (fun k hk => (h.tab k hk).1), hr.other (fun k hk => t2.block k (hr.lt k hk) (hlap k hk).1), hlap, ?_⟩
  exact (ht.mono (fun i hi => Or.inr (Or.inr (Or.inr hi)))).trans t2 (fun i hi => Or.inl (Or.inl hi))
theorem crcL_more (a b : List UInt8) : CrcM.ng (CrcM.run (CrcM.ng (crcL a)) b) = crcL (a ++ b) := crc_more a b
set_option maxRecDepth 100000 in
set_option maxHeartbeats 4000000 in
theorem sadd_any (ps : List Pc) (w : World) (h : IsSp B w t pb sb room c n blk bv tp) (hd : dec (pack ps) = (flat ps, 0)) (h1 : (pack ps).length ≤ 1000) (h2 : (pack blk).length ≤ 1000000) (h3 : (flat blk).length ≤ 1000000000000) (h4 : (flat ps).length ≤ 1000) :
    Calls Tryz.prog 285 #[.pointer (some ⟨t, 2, none⟩), .string ⟨(pack ps).toArray⟩] w fun e w' => e = .returned (.tuple #[]) ∧ ∃ bv' tp', IsSp B w' t pb sb room c n (blk ++ ps) bv' tp' ∧ Touch (ftP t pb sb bv) w w' ∧ (∀ k, bv'.ownBlock = some k → bv.ownBlock = some k ∨ w.heap.size ≤ k) := by
  have hsz : (⟨(pack ps).toArray⟩ : ByteArray).size = (pack ps).length := text_size _
  have HD : Hid (∀ W, Calls Tryz.prog 77 #[.string ⟨(pack ps).toArray⟩] W fun e w' => e = .returned (.tuple #[.string ⟨(flat ps).toArray⟩, .int .i64 0]) ∧ Below W.heap.size W w') := Lib.hid (fun W => by
    have := rldecode_any ⟨(pack ps).toArray⟩ W (by omega)
    rw [show (⟨(pack ps).toArray⟩ : ByteArray).data.toList = pack ps from rfl, hd] at this
    exact this)
  obtain ⟨P, hP⟩ : ∃ P : ByteArray, (⟨(pack ps).toArray⟩ : ByteArray) = P := ⟨_, rfl⟩
  obtain ⟨X, hX⟩ : ∃ X : ByteArray, (⟨(flat ps).toArray⟩ : ByteArray) = X := ⟨_, rfl⟩
  have HPD : Hid (P.data.toList = pack ps ∧ P.size ≤ 1000) := Lib.hid ⟨by rw [← hP], by rw [← hP, text_size]; exact h1⟩
  have HXD : Hid (X.data.toList = flat ps) := Lib.hid (by rw [← hX])
  have hXs : X.size = (flat ps).length := by rw [← hX]; exact text_size _
  rw [hP, hX] at HD
  rw [hP]
  have H := Lib.hid h
  have hlt := h.lt
  clear h hd hP hX hsz
  go_enter Tryz.func285, Tryz.ntmps285
  go_wp2_with fail
  refine (HD.out _).mono ?_
  rintro e w1 ⟨rfl, hb1⟩
  have K1 := H.out.below hb1
  have HB1 := Lib.hid hb1
  obtain ⟨v1, w2, hap, hrow, ht, hown⟩ := append_rowB w1 bv (pack blk) P K1.row (by have := HPD.out.2; omega)
  rw [HPD.out.1] at hrow
  obtain ⟨o3, p3, s3, r3, l3, t3⟩ := K1.body ht hrow hown
  obtain ⟨_, _, c2, _, _⟩ := K1.cells
  have o2 : w2.heap[t]? = some (.cells #[.int .i64 (room : Int), .pointer (some ⟨pb, 0, none⟩), bv, .pointer (some ⟨sb, 0, none⟩), .int .i64 ((flat blk).length : Int)] 273 (0, 0)) := (ht.block t K1.lt (fun e => (K1.lap t e).1 rfl)).trans K1.obj
  have d2 : w2.cell? ⟨t, 2, none⟩ = some bv := by rw [cell_of_row _ _ _ _ _ _ o2]; rfl
  have g2 : w2.frozen? ⟨t, 2, none⟩ = false := frozen_of_row _ _ _ _ _ o2
  obtain ⟨a, cap, hv, _⟩ := K1.row.slice
  obtain ⟨a1, cap1, hv1, _⟩ := hrow.slice
  obtain ⟨L1, hL1⟩ : ∃ L1, (pack blk).length = L1 := ⟨_, rfl⟩
  obtain ⟨L2, hL2⟩ : ∃ L2, (pack blk ++ pack ps).length = L2 := ⟨_, rfl⟩
  rw [hL1] at hv
  rw [hL2] at hv1
  have HK1 := Lib.hid K1
  have HOWN := Lib.hid hown
  have HV := Lib.hid (And.intro hv hv1)
  subst hv
  subst hv1
  obtain ⟨W3, hW3⟩ : ∃ W3, w2.setCell ⟨t, 2, none⟩ (.slice a1 L2 cap1) = W3 := ⟨_, rfl⟩
  rw [hW3] at o3 p3 s3 r3 t3
  have c3 : W3.cell? ⟨t, 3, none⟩ = some (.pointer (some ⟨sb, 0, none⟩)) := by rw [cell_of_row _ _ _ _ _ _ o3]; rfl
  have HO3 := Lib.hid o3
  have HP3 := Lib.hid p3
  have HS3 := Lib.hid s3
  have HR3 := Lib.hid r3
  have HL3 := Lib.hid l3
  have HT3 := Lib.hid t3
  clear K1 hb1 hrow ht hown o2 o3 p3 s3 r3 l3 t3 hL1 hL2
  go_wp2_with (refine wpList_append_run rfl _ _ 71 9 rfl _ _ rfl rfl _ _ hap ?_)
  refine (textT_any sb _ tp X _ HS3.out (by unfold maxLen; omega)).mono ?_
  rintro e w4 ⟨rfl, ⟨tp', hs4, htp⟩, ht4⟩
  rw [HXD.out, crcL_more] at hs4
  have o4 : w4.heap[t]? = some (.cells #[.int .i64 (room : Int), .pointer (some ⟨pb, 0, none⟩), .slice a1 L2 cap1, .pointer (some ⟨sb, 0, none⟩), .int .i64 ((flat blk).length : Int)] 273 (0, 0)) := (ht4.block t (Array.getElem?_eq_some_iff.1 HO3.out).1 (HK1.out.ne.2.1)).trans HO3.out
  have c4 : w4.cell? ⟨t, 4, none⟩ = some (.int .i64 ((flat blk).length : Int)) := by rw [cell_of_row _ _ _ _ _ _ o4]; rfl
  have g4 : w4.frozen? ⟨t, 4, none⟩ = false := frozen_of_row _ _ _ _ _ o4
  have p4 := HP3.out.other ht4 HK1.out.ne.2.2
  have r4 := HR3.out.other (fun k hk => ht4.block k (HR3.out.lt k hk) (HL3.out k hk).2.2.1)
  have l4 : ∀ k, (Value.slice a1 L2 cap1).ownBlock = some k → tp' ≠ some k := fun k hk e => by
    rcases htp with rfl | ⟨u, rfl, hu⟩
    · exact (HL3.out k hk).2.2.2 e
    · cases e
      have := HR3.out.lt k hk
      omega
  have tb4 : ∀ k, tp' = some k → k ≠ t ∧ k ≠ pb := fun k hk => by
    rcases htp with rfl | ⟨u, rfl, hu⟩
    · exact HK1.out.tab k hk
    · cases hk
      have l1 := (Array.getElem?_eq_some_iff.1 HO3.out).1
      have l2 := HP3.out.lt
      exact ⟨by omega, by omega⟩
  obtain ⟨N, hN⟩ : ∃ N, (flat blk).length = N := ⟨_, rfl⟩
  obtain ⟨M, hM⟩ : ∃ M, X.size = M := ⟨_, rfl⟩
  obtain ⟨N2, hN2⟩ : ∃ N2, N + M = N2 := ⟨_, rfl⟩
  have hMi : (X.size : Int) = (M : Int) := by omega
  have hN2i : (N : Int) + (M : Int) = (N2 : Int) := by omega
  have hN2w : IntKind.i64.wrap (N2 : Int) = (N2 : Int) := IntWalk.i64_in _ (by omega)
  have hFL : (flat (blk ++ ps)).length = N2 := by rw [flat_append, List.length_append, ← hXs, hN, hM, hN2]
  rw [hN] at c4
  have HR : Hid (∃ bv' tp', IsSp B (w4.setCell ⟨t, 4, none⟩ (.int .i64 (N2 : Int))) t pb sb room c n (blk ++ ps) bv' tp' ∧ Touch (ftP t pb sb (.slice a L1 cap)) w (w4.setCell ⟨t, 4, none⟩ (.int .i64 (N2 : Int))) ∧ (∀ k, bv'.ownBlock = some k → (Value.slice a L1 cap).ownBlock = some k ∨ w.heap.size ≤ k)) := Lib.hid (by
    have t5 : Touch (· = t) w4 (w4.setCell ⟨t, 4, none⟩ (.int .i64 (N2 : Int))) := touch_cell (Touch.refl _ _)
    have hsz1 := HB1.out.size
    have hown2 : ∀ k, (Value.slice a1 L2 cap1).ownBlock = some k → (Value.slice a L1 cap).ownBlock = some k ∨ w.heap.size ≤ k := fun k hk => (HOWN.out k hk).imp id (fun e => Nat.le_trans hsz1 e)
    refine ⟨.slice a1 L2 cap1, tp', ⟨?_, p4.other t5 HK1.out.ne.1.symm, ?_, ?_, HK1.out.ne, fun k hk => ⟨(HL3.out k hk).1, (HL3.out k hk).2.1, (HL3.out k hk).2.2.1, l4 k hk⟩, tb4, HK1.out.base, fun k hk => ?_⟩, ?_, hown2⟩
    · have := heap_setCell_same w4 t 4 _ _ (.int .i64 (N2 : Int)) o4
      rw [hFL]
      exact this
    · rw [flat_append]
      exact hs4.other t5 HK1.out.ne.2.1.symm (fun k hk => (tb4 k hk).1)
    · rw [pack_append]
      exact r4.other (fun k hk => t5.block k (r4.lt k hk) (HL3.out k hk).1)
    · rcases HOWN.out k hk with e | e
      · exact HK1.out.bown k e
      · have := HK1.out.base.1
        have := HK1.out.lt
        omega
    · have t04 : Touch (ftP t pb sb (.slice a L1 cap)) w W3 := (Touch.ofBelow (S := ftP t pb sb (.slice a L1 cap)) HB1.out).trans HT3.out (fun i hi => Or.inl hi)
      exact (t04.trans ht4 (fun i hi => Or.inl (Or.inr (Or.inr (Or.inl hi))))).trans t5 (fun i hi => Or.inl (Or.inl hi)))
  clear o4 p4 r4 l4 tb4 hs4 htp ht4 hFL hXs hN hM hN2
  go_wp2_with fail
  go_end0
  exact ⟨rfl, HR.out⟩
end
end Go.Proofs.YtnachbjhhpnadaaGreatDoor

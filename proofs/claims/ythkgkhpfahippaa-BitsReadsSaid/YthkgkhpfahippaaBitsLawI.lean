/-
  LAYER 1's STATEMENTS: what any operations make of a reader (1.2, 1.3).
-/
import Derived.Test.YthkgkhpfahippaaBitsS2
import Derived.Test.YthkgkhpfahippaaBitsS2n
import Derived.Test.YthkgkhpfahippaaBitsS3
import Derived.Test.YthkgkhpfahippaaBitsS4
import Derived.Test.YthkgkhpfahippaaBitsS5
import Derived.Test.YthkgkhpfahippaaBitsS5b
import Derived.Test.YthkgkhpfahippaaBitsS5s
namespace Go.Proofs.Ythkgkhpfahippaa
open Go.RowKit BitM
set_option linter.unusedVariables false
theorem touch3 (wk : World) (g : Nat) (x y z : Value) : Touch (· = g) wk (((wk.setCell ⟨g, 0, none⟩ x).setCell ⟨g, 1, none⟩ y).setCell ⟨g, 2, none⟩ z) :=
  (((Touch.refl (· = g) wk).setCell (p := ⟨g, 0, none⟩) (Or.inl rfl) x).setCell (p := ⟨g, 1, none⟩) (Or.inl rfl) y).setCell (p := ⟨g, 2, none⟩) (Or.inl rfl) z
theorem heap3 {wk : World} {g t : Nat} {x0 y0 z0 : Value} (x y z : Value) (hX : wk.heap[g]? = some (.cells #[x0, y0, z0] t)) :
    (((wk.setCell ⟨g, 0, none⟩ x).setCell ⟨g, 1, none⟩ y).setCell ⟨g, 2, none⟩ z).heap[g]? = some (.cells #[x, y, z] t) :=
  heap_setCell_same _ _ 2 _ _ _ (heap_setCell_same _ _ 1 _ _ _ (heap_setCell_same _ _ 0 _ _ _ hX))
theorem step_any (T : List UInt8) (o : OpR) (b : Nat) (v : Value) (dr sp p : Nat) (w : World) (h : IsReader w b v (T.drop dr) dr sp p) (hok : o.Ok) (hS : o.S.size ≤ 100) (hT : T.length ≤ 1000000) (hd : dr ≤ T.length) (hsp : sp ≤ dr) :
    Calls Try.prog 29 #[.agg #[.string (txt (bitsOf T)), .int .i64 (p : Int), .int .i64 (dr : Int)], .pointer (some ⟨b, 0, none⟩), .agg #[.int .i64 o.K, .int .i64 o.N, .int .u32 (o.V : Int), .string o.S]] w fun e w' => StepP T b v w e w' := by
  by_cases k1 : o.K = 1
  · exact step_more T o b v dr sp p w h hok hS hT hd hsp k1
  by_cases k2 : o.K = 2
  · by_cases hb : o.N < 8 * (dr : Int) ∨ 8 * (T.length : Int) < o.N
    · exact step_unseek T o b v dr sp p w h hok hT hd hsp k2 hb
    · exact step_seek T o b v dr sp p w h hok hT hd hsp o.N.toNat k2 (by omega) (by omega) (by omega)
  by_cases k3 : o.K = 3
  · exact step_align T o b v dr sp p w h hok hT hd hsp k3
  by_cases k4 : o.K = 4
  · exact step_drop T o b v dr sp p w h hok hT hd hsp k4
  by_cases hb : o.N < 0 ∨ 32 < o.N
  · exact step_bad T o b v dr sp p w h hok hT hd hsp k1 k2 k3 k4 hb
  · by_cases hp : p + o.N.toNat ≤ 8 * T.length
    · exact step_get T o b v dr sp p w h hok hT hd hsp k1 k2 k3 k4 o.N.toNat (by omega) (by omega) hp
    · exact step_short T o b v dr sp p w h hok hT hd hsp k1 k2 k3 k4 o.N.toNat (by omega) (by omega) (by omega)
set_option maxRecDepth 100000 in
set_option maxHeartbeats 4000000 in
theorem bitsReads.walk (s : ByteArray) (a : Option Addr) (len cap : Nat) (l : List OpR) (w : World) (hs : s.size ≤ maxLen) (w0 : IsOps w a len l) :
    Calls Try.prog 4 #[.string s, .slice a len cap] w fun e w' => e = .returned (.bool true) ∧ Below w.heap.size w w' := by
  have H := Lib.hid w0
  have hmax := w0.2.2
  unfold maxLen at hmax hs
  clear w0
  go_enter Try.func4, Try.ntmps4
  go_wp2_with fail
  refine (large_any a len cap l w H.out).mono ?_
  rintro e wl ⟨bb, rfl, hbl, hlg⟩
  have HL := Lib.hid hbl
  have HG := Lib.hid hlg
  clear hbl hlg
  cases bb with
  | true =>
    go_wp2_with fail
    refine (five_any wl).mono ?_
    rintro e w2 ⟨rfl, hb⟩
    have H2 := Lib.hid hb
    clear hb
    go_wp2_with fail
    go_ret
    exact ⟨rfl, HL.out.trans (H2.out.mono HL.out.size)⟩
  | false =>
    by_cases h1 : (100 : Int) < s.size
    · go_wp2_with fail
      refine (five_any wl).mono ?_
      rintro e w2 ⟨rfl, hb⟩
      have H2 := Lib.hid hb
      clear hb
      go_wp2_with fail
      go_ret
      exact ⟨rfl, HL.out.trans (H2.out.mono HL.out.size)⟩
    · have h60 := (HG.out rfl).1
      have h100 := Lib.hid (HG.out rfl).2.1
      have hll := H.out.1.1
      go_wp2_with fail
      refine (newReader_any s wl (by unfold maxLen; omega)).mono ?_
      rintro e w1 ⟨rb, v1, rfl, hr1, hb1, hf1⟩
      have R1 := Lib.hid hr1
      have B1 := Lib.hid (HL.out.trans (hb1.mono HL.out.size))
      have F1 := Lib.hid (fun k hk => Nat.le_trans HL.out.size (hf1 k hk))
      clear hr1 hb1 hf1
      go_wp2_with fail
      refine (bitsTxt_any s _ (by omega)).mono ?_
      rintro e w3 ⟨rfl, rfl⟩
      obtain ⟨g, hg⟩ : ∃ g, g = w1.heap.size := ⟨_, rfl⟩
      have hgw : w.heap.size ≤ g := by rw [hg]; exact B1.out.size
      have hrl : ∀ k, foot rb v1 k → k ≠ g := fun k hk e => by have := R1.out.lt k hk; omega
      have HRL := Lib.hid hrl
      clear hrl
      go_wp2_with fail
      rw [← hg]
      have HGG := Lib.hid hg
      clear hg
      go_loopw [26] (fun i wr => ∃ (k p dr sp : Nat) (T : List UInt8) (v : Value), k ≤ len ∧ i = .int .i64 k ∧ wr.heap[g]? = some (.cells #[.string (txt (bitsOf T)), .int .i64 (p : Int), .int .i64 (dr : Int)] 40) ∧ IsReader wr rb v (T.drop dr) dr sp p ∧ dr ≤ T.length ∧ sp ≤ dr ∧ T.length ≤ 100 + 100 * k ∧ Below w.heap.size w wr ∧ (∀ j, foot rb v j → w.heap.size ≤ j) ∧ (∀ j, foot rb v j → j ≠ g)) (fun i _ => len - (intOf i).toNat)
      case atStart =>
        exact ⟨0, 0, 0, 0, s.data.toList, v1, by omega, rfl, by rw [HGG.out]; exact heap_alloc_new _ _, R1.out.other ((Touch.refl (fun _ => False) _).alloc _) (fun _ _ h => h), by omega, by omega, by have e : s.data.toList.length = s.size := rfl; omega, B1.out.alloc B1.out.size _, F1.out, HRL.out⟩
      case round =>
        obtain ⟨k, p, dr, sp, T, v, hk, rfl, hx, hR, hd, hsp, hTl, hB, hF, hne⟩ := hrel
        have HX := Lib.hid hx
        have HR := Lib.hid hR
        have HB := Lib.hid hB
        have HF := Lib.hid hF
        have HNE := Lib.hid hne
        have s0 : wr.cell? ⟨g, 0, none⟩ = some (.string (txt (bitsOf T))) := (cell_of_row _ _ _ _ _ _ hx).trans rfl
        have s1 : wr.cell? ⟨g, 1, none⟩ = some (.int .i64 (p : Int)) := (cell_of_row _ _ _ _ _ _ hx).trans rfl
        have s2 : wr.cell? ⟨g, 2, none⟩ = some (.int .i64 (dr : Int)) := (cell_of_row _ _ _ _ _ _ hx).trans rfl
        have hglt : g < wr.heap.size := (Array.getElem?_eq_some_iff.1 hx).1
        have f0 : ∀ j, wr.frozen? ⟨g, j, none⟩ = false := fun j => frozen_of_row _ _ _ _ _ hx
        have f00 := f0 0
        have f01 := f0 1
        have f02 := f0 2
        clear hx hR hB hF hne f0
        by_cases hlt : k < len
        · obtain ⟨o, b, off, ho, hok, rfl, c0, c1, c2, c3⟩ := H.out.at_ HB.out hlt
          have HO := Lib.hid ho
          have HOK := Lib.hid hok
          clear ho hok
          have ha : w.heap.size ≤ (wr.alloc (.cells #[.int .i64 o.K, .int .i64 o.N, .int .u32 (o.V : Int), .string o.S] 29)).heap.size := by have := HB.out.size; simp; omega
          have hga : g < (wr.alloc (.cells #[.int .i64 o.K, .int .i64 o.N, .int .u32 (o.V : Int), .string o.S] 29)).heap.size := by simp; omega
          have HBA := Lib.hid (HB.out.alloc HB.out.size (.cells #[.int .i64 o.K, .int .i64 o.N, .int .u32 (o.V : Int), .string o.S] 29))
          have HXA := Lib.hid ((heap_alloc_old wr (.cells #[.int .i64 o.K, .int .i64 o.N, .int .u32 (o.V : Int), .string o.S] 29) hglt).trans HX.out)
          go_wp2_with fail
          refine (step_any T o rb v dr sp p _ (HR.out.other ((Touch.refl (fun _ => False) _).alloc _) (fun _ _ h => h)) HOK.out (h100.out _ _ HO.out) (by omega) hd hsp).mono ?_
          rintro e w2 ⟨T1, p1, dr1, sp1, v2, rfl, hr2, hd1, hsp1, hT1, ht2, hf2⟩
          have hbl2 := (ht2.block g hga (fun h => HNE.out _ h rfl)).trans HXA.out
          have hg2 : g < w2.heap.size := (Array.getElem?_eq_some_iff.1 hbl2).1
          have R2 := Lib.hid hr2
          have X2 := Lib.hid hbl2
          have HB2 := Lib.hid (HBA.out.trans (ht2.below ha HF.out))
          have HF2 := Lib.hid (show ∀ j, foot rb v2 j → w.heap.size ≤ j from fun j hj => (hf2 j hj).elim (HF.out j) (fun h => Nat.le_trans ha h))
          have HN2 := Lib.hid (show ∀ j, foot rb v2 j → j ≠ g from fun j hj => (hf2 j hj).elim (HNE.out j) (fun h e => by omega))
          have R2a := Lib.hid (hr2.other ((Touch.refl (fun _ => False) _).alloc (.cells #[.string (txt (bitsOf T1)), .int .i64 (p1 : Int), .int .i64 (dr1 : Int)] 40)) (fun _ _ h => h))
          have hts1 : (txt (bitsOf T1)).size = 8 * (dr1 + (T1.drop dr1).length) := by rw [txt_size, bitsOf_length, List.length_drop]; omega
          have HTS1 := Lib.hid hts1
          have hl1 : dr1 + (T1.drop dr1).length ≤ 1099511627776 := by rw [List.length_drop]; omega
          clear hr2 hbl2 ht2 hf2 hts1 s0 s1 s2 f00 f01 f02
          go_wp2_with fail
          refine (fit_any (txt (bitsOf T1)) rb v2 (T1.drop dr1) dr1 sp1 p1 _ R2a.out hl1 HTS1.out).mono ?_
          rintro e w4 ⟨rfl, hb4⟩
          have x4 := (hb4.block g (by simp; omega)).trans ((heap_alloc_old w2 _ hg2).trans X2.out)
          have y4 := (hb4.block w2.heap.size (by simp)).trans (heap_alloc_new w2 _)
          have s0 : w4.cell? ⟨g, 0, none⟩ = some (.string (txt (bitsOf T))) := (cell_of_row _ _ _ _ _ _ x4).trans rfl
          have s1 : w4.cell? ⟨g, 1, none⟩ = some (.int .i64 (p : Int)) := (cell_of_row _ _ _ _ _ _ x4).trans rfl
          have s2 : w4.cell? ⟨g, 2, none⟩ = some (.int .i64 (dr : Int)) := (cell_of_row _ _ _ _ _ _ x4).trans rfl
          have f0 : ∀ j, w4.frozen? ⟨g, j, none⟩ = false := fun j => frozen_of_row _ _ _ _ _ x4
          have f00 := f0 0
          have f01 := f0 1
          have f02 := f0 2
          have n0 : w4.cell? ⟨w2.heap.size, 0, none⟩ = some (.string (txt (bitsOf T1))) := (cell_of_row _ _ _ _ _ _ y4).trans rfl
          have n1 : w4.cell? ⟨w2.heap.size, 1, none⟩ = some (.int .i64 (p1 : Int)) := (cell_of_row _ _ _ _ _ _ y4).trans rfl
          have n2 : w4.cell? ⟨w2.heap.size, 2, none⟩ = some (.int .i64 (dr1 : Int)) := (cell_of_row _ _ _ _ _ _ y4).trans rfl
          have X4 := Lib.hid x4
          have HB4 := Lib.hid ((HB2.out.alloc HB2.out.size _).trans (hb4.mono (HB2.out.alloc HB2.out.size _).size))
          have R4 := Lib.hid (R2a.out.other (Touch.ofBelow hb4 : Touch (fun _ => False) _ _) (fun _ _ h => h))
          have hw4 : w.heap.size ≤ w4.heap.size := HB4.out.size
          clear x4 y4 f0 hb4
          go_wp2_with fail
          go_roundw
          case rel =>
            exact ⟨k + 1, p1, dr1, sp1, T1, v2, by omega, by go_num, heap3 _ _ _ X4.out, R4.out.other (touch3 _ _ _ _ _) HN2.out, hd1, hsp1, by omega, HB4.out.trans ((touch3 _ _ _ _ _).below hw4 (fun i hi => by omega)), HF2.out, HN2.out⟩
          case measure => simp [intOf]; omega
        · obtain rfl : k = len := by omega
          have hts : (txt (bitsOf T)).size = 8 * (dr + (T.drop dr).length) := by rw [txt_size, bitsOf_length, List.length_drop]; omega
          have HTS := Lib.hid hts
          have hl1 : dr + (T.drop dr).length ≤ 1099511627776 := by rw [List.length_drop]; omega
          clear hts
          go_wp2_with fail
          refine (fit_any (txt (bitsOf T)) rb v (T.drop dr) dr sp p _ HR.out hl1 HTS.out).mono ?_
          rintro e w4 ⟨rfl, hb4⟩
          have HB4 := Lib.hid (HB.out.trans (hb4.mono HB.out.size))
          clear hb4
          go_wp2_with fail
          refine (five_any w4).mono ?_
          rintro e w5 ⟨rfl, hb5⟩
          have HB5 := Lib.hid (HB4.out.trans (hb5.mono HB4.out.size))
          clear hb5
          go_wp2_with fail
          go_ret
          exact ⟨rfl, HB5.out⟩
end Go.Proofs.Ythkgkhpfahippaa

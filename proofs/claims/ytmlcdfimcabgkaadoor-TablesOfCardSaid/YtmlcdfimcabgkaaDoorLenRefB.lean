/-
  LAYER 9 (lens), THE DOCUMENT's ANSWER (balerref09): depths, tree by tree.
-/
import Derived.Test.YtmlcdfimcabgkaaDoorTreeMath
import Derived.Test.YtmlcdfimcabgkaaDoorLenF
import Derived.Deep.Cut
namespace Go.Proofs.YtmlcdfimcabgkaaDoor
open Go.RowKit HufM
set_option linter.unusedVariables false
def vlen : Value → Nat
  | .slice _ n _ => n
  | _ => 0
theorem one_int (W : World) (c : Int) : OwnI (W.alloc (.cells #[.int .i64 c] 3)) W.heap.size (.slice (some ⟨W.heap.size, 0, none⟩) 1 1) [c] :=
  ⟨rfl, Or.inr ⟨W.heap.size, 1, _, rfl, Nat.le_refl _, heap_alloc_new W _, Nat.le_refl _, by simp [maxLen], rfl, rfl⟩⟩
set_option maxRecDepth 100000 in
set_option maxHeartbeats 4000000 in
theorem rDepths_loc (v : Value) (zs : List Int) (w : World) (hv : IsInts w v zs) (h1 : 1 ≤ zs.length) (hz : zs.length ≤ 300) (hw : ∀ z ∈ zs, 0 ≤ z ∧ z ≤ 1099511627777) :
    Calls Tryd.prog 50 #[v] w fun e w' => ∃ (r : Value) (ds : List Int), e = .returned r ∧ IsInts w' r ds ∧ DepP zs ds ∧ Below w.heap.size w w' ∧ (∀ k, r.ownBlock = some k → w.heap.size ≤ k) := by
  have HV := Lib.hid hv
  have HW := Lib.hid hw
  obtain ⟨a, cap, rfl, _⟩ := hv
  obtain ⟨n, hn⟩ : ∃ n, zs.length = n := ⟨_, rfl⟩
  have HN := Lib.hid hn
  rw [hn] at h1 hz ⊢
  clear hw hn
  go_enter Tryd.func50, Tryd.ntmps50
  go_wp2_with fail
  go_loopw [4, 20] (fun vl vi wr => ∃ (k : Nat) (l : Value), vi = .int .i64 k ∧ k ≤ n ∧ l = vl ∧ OwnT 0 wr w.heap.size l (sgl zs k) ∧ Below w.heap.size w wr) (fun _ vi _ => n - (intOf vi).toNat)
  case atStart => exact ⟨0, _, rfl, by omega, rfl, OwnT.nil w _, Below.refl _ _⟩
  case round =>
    obtain ⟨k, l, rfl, hk, rfl, hO, hB⟩ := hrel
    have HO := Lib.hid hO
    have HB := Lib.hid hB
    obtain ⟨oa, oc, rfl⟩ := hO.slice
    rw [sgl_len] at HO ⊢
    clear hO hB
    by_cases hlk : k < n
    · have hki : (k : Int) < (n : Int) := by omega
      obtain ⟨b1, o1, k1, he1, c1⟩ := HV.out.cell (show k < zs.length by rw [HN.out]; exact hlk)
      rw [HN.out] at he1
      simp only [Value.slice.injEq] at he1
      obtain ⟨rfl, _, rfl⟩ := he1
      have c1 := (HB.out.cell (cell_lt c1)).trans c1
      have hx2 := HW.out _ (getD_mem (show k < zs.length by rw [HN.out]; exact hlk))
      have hs := sgl_succ zs k
      obtain ⟨X, hX⟩ : ∃ X : Nat, zs.getD k 0 = (X : Int) := ⟨(zs.getD k 0).toNat, by omega⟩
      rw [hX] at c1 hx2 hs
      rw [Int.toNat_natCast] at hs
      have HS := Lib.hid hs
      have W0 : Hid (Below wr.heap.size wr (wr.alloc (.cells #[.int .i64 (k : Int)] 3))) := Lib.hid ((Below.refl _ wr).alloc (Nat.le_refl _) _)
      have HO2 : Hid (OwnT 0 (wr.alloc (.cells #[.int .i64 (k : Int)] 3)) w.heap.size (.slice oa k oc) (sgl zs k)) := Lib.hid (HO.out.below W0.out)
      have HU2 : Hid (OwnI (wr.alloc (.cells #[.int .i64 (k : Int)] 3)) 0 (.slice (some ⟨wr.heap.size, 0, none⟩) 1 1) [(k : Int)]) := Lib.hid ((one_int wr k).lower (Nat.zero_le _))
      have hpos : 0 < w.heap.size := by have := cell_lt ((HV.out.cell (show k < zs.length by rw [HN.out]; exact hlk)).choose_spec.choose_spec.choose_spec.2); omega
      have HB2 := HB.out.size
      clear hs hX
      have hbase : Hid (w.heap.size ≤ (wr.alloc (.cells #[.int .i64 (k : Int)] 3)).heap.size) := Lib.hid (by
        have : (wr.alloc (.cells #[.int .i64 (k : Int)] 3)).heap.size = wr.heap.size + 1 := by simp
        omega)
      have hux : Hid ((Value.slice (some ⟨wr.heap.size, 0, none⟩) 1 1).ownBlock ≠ some 0) := Lib.hid (fun e => by simp only [Value.ownBlock, Option.some.injEq] at e; omega)
      have hgs : Hid ((wr.alloc (.cells #[.int .i64 (k : Int)] 3)).heap.size = wr.heap.size + 1) := Lib.hid (by simp)
      have hll : Hid ((sgl zs k).length + 1 ≤ 1000000) := Lib.hid (by rw [sgl_len]; omega)
      go_wp2_with (at_builtin; go_loud (refine push_tree (wr.alloc (.cells #[.int .i64 (k : Int)] 3)) rfl _ _ rfl w.heap.size (wr.heap.size + 1) hgs.out (.slice oa k oc) (sgl zs k) ((X, k), [(k : Int)]) (.slice (some ⟨wr.heap.size, 0, none⟩) 1 1) HO2.out HU2.out hux.out rfl rfl hll.out hbase.out ?_))
      intro v' w' hown hb
      have HOWN := Lib.hid hown
      have HBB : Hid (Below w.heap.size w w') := Lib.hid ((HB.out.alloc HB.out.size _).trans hb)
      clear hown hb
      go_wp2_with fail
      go_roundw
      case rel => exact ⟨k + 1, _, by go_num, by omega, rfl, by rw [HS.out]; exact HOWN.out, HBB.out⟩
      case measure => simp [intOf]; omega
    · have hki : ¬ (k : Int) < (n : Int) := by omega
      obtain rfl : n = k := by omega
      obtain ⟨g, hg⟩ : ∃ g, wr.heap.size = g := ⟨_, rfl⟩
      have hmk := make_ints n (by omega) wr
      have HR0 := Lib.hid (RowI.made wr n)
      have W0 : Hid (Below wr.heap.size wr (wr.alloc (.cells (madeCells #[Value.int .i64 0] n) 3))) := Lib.hid ((Below.refl _ wr).alloc (Nat.le_refl _) _)
      have HO2 : Hid (OwnT g (wr.alloc (.cells (madeCells #[Value.int .i64 0] n) 3)) w.heap.size (.slice oa n oc) (sgl zs n)) := Lib.hid ((HO.out.new (by omega)).below W0.out)
      have HB2 : Hid (Below w.heap.size w (wr.alloc (.cells (madeCells #[Value.int .i64 0] n) 3))) := Lib.hid (HB.out.alloc HB.out.size _)
      have hgw : Hid (w.heap.size ≤ g) := Lib.hid (by rw [← hg]; exact HB.out.size)
      rw [hg] at hmk HR0
      obtain ⟨d, hds⟩ := DS.start (w := zs) (by rw [HN.out]; exact h1)
      rw [HN.out] at hds
      have HDS := Lib.hid hds
      have hT : Hid (sumN wt (ini zs) ≤ 1099511627777 * 300) := Lib.hid (by
        have := sumN_le (f := wt) (l := ini zs) (c := 1099511627777) (fun t ht => by
          obtain ⟨h3, h4⟩ := ini_mem ht
          have h5 := (HW.out (zs.getD t.2 0) (getD_mem h3)).2
          show t.1 ≤ _
          omega)
        rw [ini_len, HN.out] at this
        exact Nat.le_trans this (Nat.mul_le_mul_left _ hz))
      clear hg hds
      go_wp2_with fail
      generalize wr.alloc (.cells (madeCells #[Value.int .i64 0] n) 3) = w2 at *
      clear hmk
      go_wp2_with fail
      go_loopw [4, 8, 9, 10, 11, 12, 13] (fun vl vx _ _ _ _ _ wr => ∃ (ts : List T3) (o : List Int) (K : Nat) (l : Value) (base : Nat), l = vl ∧ vx = .int .i64 K ∧ OwnT g wr base l ts ∧ DS zs d ts o K ∧ RowI wr g o ∧ 1 ≤ ts.length ∧ Below w.heap.size w wr) (fun vl _ _ _ _ _ _ _ => vlen vl)
      case atStart => exact ⟨_, _, n, _, _, rfl, rfl, HO2.out, HDS.out, HR0.out, by rw [sgl_len]; exact h1, HB2.out⟩
      case round =>
        obtain ⟨ts, o, K, l, base, rfl, rfl, hO, hD, hR, hl1, hB⟩ := hrel
        obtain ⟨la, lc, rfl⟩ := hO.slice
        obtain ⟨m, hm⟩ : ∃ m, ts.length = m := ⟨_, rfl⟩
        have HO := Lib.hid hO
        have HD := Lib.hid hD
        have HR := Lib.hid hR
        have HB := Lib.hid hB
        have HM := Lib.hid hm
        have hcnt := hD.cnt
        rw [HN.out, hm] at hcnt
        rw [hm] at HO hl1 ⊢
        clear hO hD hR hB hm
        by_cases hm2 : 1 < m
        · have hm2i : (1 : Int) < (m : Int) := by omega
          go_wp2_with fail
          refine (tleast_any _ ts _ base HO.out (by rw [HM.out]; omega) (by rw [HM.out]; omega)).mono ?_
          rintro e w3 ⟨ia, rfl, hia, hna, hb3⟩
          rw [HM.out] at hia
          obtain ⟨x, hx⟩ : ∃ x, ts[ia]? = some x := ⟨_, List.getElem?_eq_getElem (by rw [HM.out]; exact hia)⟩
          have HO3 := Lib.hid (HO.out.below hb3)
          have HR3 := Lib.hid (HR.out.below hb3)
          have HB3 := Lib.hid (HB.out.trans (hb3.mono HB.out.size))
          obtain ⟨gx, cx, ux, he, hgx, x0, x1, x2, hox, hoxx⟩ := HO3.out.at hx
          rw [HM.out] at he
          simp only [Value.slice.injEq] at he
          obtain ⟨rfl, _, rfl⟩ := he
          obtain ⟨xa, xc, rfl⟩ := hox.slice
          have HX := Lib.hid hx
          have HNA := Lib.hid hna
          have HOX := Lib.hid hox
          have hiai : (ia : Int) < (m : Int) := by omega
          have hia3 : ia * 3 < 3000 := by omega
          clear hx hna hb3 hox
          obtain ⟨w4, hw4⟩ : ∃ w4, w3.alloc (.cells #[.int .i64 (x.1.1 : Int), .int .i64 (x.1.2 : Int), .slice xa x.2.length xc] 70) = w4 := ⟨_, rfl⟩
          have b34 : Below w3.heap.size w3 w4 := by rw [← hw4]; exact (Below.refl _ w3).alloc (Nat.le_refl _) _
          have hX4 : Hid (w4.heap[w3.heap.size]? = some (.cells #[.int .i64 (x.1.1 : Int), .int .i64 (x.1.2 : Int), .slice xa x.2.length xc] 70 (0, 0))) := Lib.hid (by rw [← hw4]; exact heap_alloc_new w3 _)
          have HO4 := Lib.hid (HO3.out.below b34)
          have HR4 := Lib.hid (HR3.out.below b34)
          have HB4 := Lib.hid (HB3.out.trans (b34.mono HB3.out.size))
          have HOX4 := Lib.hid (HOX.out.below b34)
          obtain ⟨px, hpx⟩ : ∃ px, w3.heap.size = px := ⟨_, rfl⟩
          rw [hpx] at hX4
          have hpx4 : Hid (px < w4.heap.size) := Lib.hid (Array.getElem?_eq_some_iff.1 hX4.out).1
          have HPX := Lib.hid hpx
          clear b34
          go_wp2_with fail
          clear hw4 hpx
          refine (twithout_any _ ts ia w4 base HO4.out (by rw [HM.out]; exact hia) (by rw [HM.out]; omega)).mono ?_
          rintro e w5 ⟨r5, rfl, ho5, hb5⟩
          have hl5 : (ts.eraseIdx ia).length = m - 1 := by rw [List.length_eraseIdx_of_lt (by rw [HM.out]; exact hia), HM.out]
          obtain ⟨l5a, l5c, rfl⟩ := ho5.slice
          have HL5 := Lib.hid hl5
          rw [hl5] at ho5 ⊢
          obtain ⟨m5, hm5⟩ : ∃ m5, m - 1 = m5 := ⟨_, rfl⟩
          rw [hm5] at ho5 HL5 ⊢
          have hm51 : 1 ≤ m5 := by omega
          have hm52 : m5 + 1 = m := by omega
          have HM5 := Lib.hid hm52
          have hm5b : m5 ≤ 1000 := by omega
          have HO5 := Lib.hid ho5
          have HR5 := Lib.hid (HR4.out.below hb5)
          have HB5 := Lib.hid (HB4.out.trans (hb5.mono HB4.out.size))
          have HOX5 := Lib.hid (HOX4.out.below hb5)
          have hX5 : Hid (w5.heap[px]? = some (.cells #[.int .i64 (x.1.1 : Int), .int .i64 (x.1.2 : Int), .slice xa x.2.length xc] 70 (0, 0))) := Lib.hid ((hb5.block px hpx4.out).trans hX4.out)
          clear ho5 hb5 hl5 hm5 hm52 x0 x1 x2
          go_wp2_with fail
          refine (tleast_any _ (ts.eraseIdx ia) _ _ HO5.out (by rw [HL5.out]; omega) (by rw [HL5.out]; omega)).mono ?_
          rintro e w6 ⟨ib, rfl, hib, hnb, hb6⟩
          rw [HL5.out] at hib
          obtain ⟨y, hy⟩ : ∃ y, (ts.eraseIdx ia)[ib]? = some y := ⟨_, List.getElem?_eq_getElem (by rw [HL5.out]; exact hib)⟩
          have HO6 := Lib.hid (HO5.out.below hb6)
          have HR6 := Lib.hid (HR5.out.below hb6)
          have HB6 := Lib.hid (HB5.out.trans (hb6.mono HB5.out.size))
          have HOX6 := Lib.hid (HOX5.out.below hb6)
          have hX6 : Hid (w6.heap[px]? = some (.cells #[.int .i64 (x.1.1 : Int), .int .i64 (x.1.2 : Int), .slice xa x.2.length xc] 70 (0, 0))) := Lib.hid ((hb6.block px ((Array.getElem?_eq_some_iff.1 hX5.out).1)).trans hX5.out)
          obtain ⟨gy, cy, uy, he, hgy, y0, y1, y2, hoy, hoyx⟩ := HO6.out.at hy
          rw [HL5.out] at he
          simp only [Value.slice.injEq] at he
          obtain ⟨rfl, _, rfl⟩ := he
          obtain ⟨ya, yc, rfl⟩ := hoy.slice
          have HY := Lib.hid hy
          have HNB := Lib.hid hnb
          have HOY := Lib.hid hoy
          have hibi : (ib : Int) < (m5 : Int) := by omega
          have hib3 : ib * 3 < 3000 := by omega
          clear hy hnb hb6 hoy
          obtain ⟨w7, hw7⟩ : ∃ w7, w6.alloc (.cells #[.int .i64 (y.1.1 : Int), .int .i64 (y.1.2 : Int), .slice ya y.2.length yc] 70) = w7 := ⟨_, rfl⟩
          have b67 : Below w6.heap.size w6 w7 := by rw [← hw7]; exact (Below.refl _ w6).alloc (Nat.le_refl _) _
          have hY7 : Hid (w7.heap[w6.heap.size]? = some (.cells #[.int .i64 (y.1.1 : Int), .int .i64 (y.1.2 : Int), .slice ya y.2.length yc] 70 (0, 0))) := Lib.hid (by rw [← hw7]; exact heap_alloc_new w6 _)
          have HO7 := Lib.hid (HO6.out.below b67)
          have HR7 := Lib.hid (HR6.out.below b67)
          have HB7 := Lib.hid (HB6.out.trans (b67.mono HB6.out.size))
          have HOX7 := Lib.hid (HOX6.out.below b67)
          have HOY7 := Lib.hid (HOY.out.below b67)
          have hX7 : Hid (w7.heap[px]? = some (.cells #[.int .i64 (x.1.1 : Int), .int .i64 (x.1.2 : Int), .slice xa x.2.length xc] 70 (0, 0))) := Lib.hid ((b67.block px ((Array.getElem?_eq_some_iff.1 hX6.out).1)).trans hX6.out)
          obtain ⟨py, hpy⟩ : ∃ py, w6.heap.size = py := ⟨_, rfl⟩
          rw [hpy] at hY7
          have HPY := Lib.hid hpy
          clear b67
          go_wp2_with fail
          clear hw7 hpy
          refine (twithout_any _ (ts.eraseIdx ia) ib w7 _ HO7.out (by rw [HL5.out]; exact hib) (by rw [HL5.out]; omega)).mono ?_
          rintro e w8 ⟨r8, rfl, ho8, hb8⟩
          have hl8 : ((ts.eraseIdx ia).eraseIdx ib).length = m5 - 1 := by rw [List.length_eraseIdx_of_lt (by rw [HL5.out]; exact hib), HL5.out]
          obtain ⟨l8a, l8c, rfl⟩ := ho8.slice
          have HL8 := Lib.hid hl8
          rw [hl8] at ho8 ⊢
          obtain ⟨m8, hm8⟩ : ∃ m8, m5 - 1 = m8 := ⟨_, rfl⟩
          rw [hm8] at ho8 HL8 ⊢
          have hm82 : m8 + 1 = m5 := by omega
          have HM8 := Lib.hid hm82
          have hm8b : m8 ≤ 1000 := by omega
          have hg7 : Hid (g < w7.heap.size) := Lib.hid HR7.out.lt
          have HO8 := Lib.hid ho8
          have HR8 := Lib.hid (HR7.out.below hb8)
          have HB8 := Lib.hid (HB7.out.trans (hb8.mono HB7.out.size))
          have HOX8 := Lib.hid (HOX7.out.below hb8)
          have HOY8 := Lib.hid (HOY7.out.below hb8)
          have hX8 : Hid (w8.heap[px]? = some (.cells #[.int .i64 (x.1.1 : Int), .int .i64 (x.1.2 : Int), .slice xa x.2.length xc] 70 (0, 0))) := Lib.hid ((hb8.block px ((Array.getElem?_eq_some_iff.1 hX7.out).1)).trans hX7.out)
          have hY8 : Hid (w8.heap[py]? = some (.cells #[.int .i64 (y.1.1 : Int), .int .i64 (y.1.2 : Int), .slice ya y.2.length yc] 70 (0, 0))) := Lib.hid ((hb8.block py ((Array.getElem?_eq_some_iff.1 hY7.out).1)).trans hY7.out)
          have hsz8 : Hid (w7.heap.size ≤ w8.heap.size) := Lib.hid hb8.size
          obtain ⟨hDS2, hsum, hzr, hzl⟩ := HD.out.step (by rw [HM.out]; exact hia) HX.out HNA.out (by rw [HL5.out]; exact hib) HY.out HNB.out
          have x2 : w8.cell? ⟨px, 2, none⟩ = some (.slice xa x.2.length xc) := by rw [cell_of_row _ _ _ _ _ _ hX8.out]; rfl
          have y2' : w8.cell? ⟨py, 2, none⟩ = some (.slice ya y.2.length yc) := by rw [cell_of_row _ _ _ _ _ _ hY8.out]; rfl
          have HDS2 := Lib.hid hDS2
          have HZR := Lib.hid hzr
          rw [List.length_append, HN.out] at hzl
          have hsumb : x.1.1 + y.1.1 ≤ 400000000000000 := by have := hT.out; omega
          clear ho8 hb8 hl8 hm8 hm82 y0 y1 y2 hDS2 hzr hsum
          go_wp2_with (at_builtin; go_loud (refine push_own w8 rfl _ _ rfl w8.heap.size (.slice none 0 0) [] 0 (.slice xa x.2.length xc) x.2 (OwnI.nil w8 _) HOX8.out rfl rfl (by simp; omega) (Nat.le_refl _) ?_))
          intro v9 w9 hown9 hb9
          have HOWN9 : Hid (OwnI w9 w8.heap.size v9 x.2) := Lib.hid hown9
          obtain ⟨a9, c9, rfl⟩ := hown9.slice
          have hOX9 := HOY8.out.below hb9
          have hY9 : w9.heap[py]? = some (.cells #[.int .i64 (y.1.1 : Int), .int .i64 (y.1.2 : Int), .slice ya y.2.length yc] 70 (0, 0)) := (hb9.block py ((Array.getElem?_eq_some_iff.1 hY8.out).1)).trans hY8.out
          have y2 : w9.cell? ⟨py, 2, none⟩ = some (.slice ya y.2.length yc) := by rw [cell_of_row _ _ _ _ _ _ hY9]; rfl
          have HOY9 := Lib.hid hOX9
          have HB89 := Lib.hid hb9
          have hs89 := hb9.size
          clear hown9 hb9 hOX9 hY9 y2' x2
          go_wp2_with (at_builtin; go_loud (refine push_own w9 rfl _ _ rfl w8.heap.size (.slice a9 x.2.length c9) x.2 0 (.slice ya y.2.length yc) y.2 HOWN9.out HOY9.out rfl rfl (by omega) hs89 ?_))
          intro v10 w10 hown10 hb10
          have b810 : Below w8.heap.size w8 w10 := HB89.out.trans hb10
          obtain ⟨L, hL⟩ : ∃ L, x.2 ++ y.2 = L := ⟨_, rfl⟩
          rw [hL] at hown10 HDS2 HZR
          have hLn : L.length ≤ n := by rw [← hL, List.length_append]; exact hzl
          have HLL := Lib.hid hL
          have HOWN10 : Hid (OwnI w10 w8.heap.size v10 L) := Lib.hid hown10
          obtain ⟨a10, c10, rfl⟩ := hown10.slice
          have HO10 := Lib.hid (HO8.out.below b810)
          have HR10 := Lib.hid (HR8.out.below b810)
          have HB10 : Hid (Below w.heap.size w w10) := Lib.hid (HB8.out.trans (b810.mono HB8.out.size))
          have hX10 : Hid (w10.heap[px]? = some (.cells #[.int .i64 (x.1.1 : Int), .int .i64 (x.1.2 : Int), .slice xa x.2.length xc] 70 (0, 0))) := Lib.hid ((b810.block px ((Array.getElem?_eq_some_iff.1 hX8.out).1)).trans hX8.out)
          have hY10 : Hid (w10.heap[py]? = some (.cells #[.int .i64 (y.1.1 : Int), .int .i64 (y.1.2 : Int), .slice ya y.2.length yc] 70 (0, 0))) := Lib.hid ((b810.block py ((Array.getElem?_eq_some_iff.1 hY8.out).1)).trans hY8.out)
          have hg8 : Hid (g < w8.heap.size) := Lib.hid HR8.out.lt
          have hs810 : Hid (w8.heap.size ≤ w10.heap.size) := Lib.hid b810.size
          have hpxg : Hid (px ≠ g) := Lib.hid (fun e => by
            have h1 := hX10.out
            have h2 := HR10.out
            subst e
            unfold RowI at h2
            rw [h1] at h2
            simp at h2)
          have hpyg : Hid (py ≠ g) := Lib.hid (fun e => by
            have h1 := hY10.out
            have h2 := HR10.out
            subst e
            unfold RowI at h2
            rw [h1] at h2
            simp at h2)
          clear hown10 hb10 b810 hL y2 hs89 hzl
          go_wp2_with fail
          go_loopw [68] (fun vi wr => ∃ k : Nat, vi = .int .i64 k ∧ k ≤ L.length ∧ RowI wr g (inc o (L.take k)) ∧ Touch (· = g) w10 wr) (fun vi _ => L.length - (intOf vi).toNat)
          case atStart => exact ⟨0, rfl, by omega, HR10.out, Touch.refl _ _⟩
          case round =>
            obtain ⟨k, rfl, hk, hR, hT⟩ := hrel
            have HRK := Lib.hid hR
            have HTK := Lib.hid hT
            have HLK : Hid (OwnI wr w8.heap.size (.slice a10 L.length c10) L) := Lib.hid (HOWN10.out.same (fun j hj => hT.block j (World.ownsRow.lt HOWN10.out j hj).2 (fun e => by
              have e' : j = g := e
              have := (World.ownsRow.lt HOWN10.out j hj).1
              have := hg8.out
              omega)))
            clear hR hT
            by_cases hlk : k < L.length
            · have hki : (k : Int) < (L.length : Int) := by omega
              obtain ⟨b1, o1, k1, he1, c1⟩ := HLK.out.ints.cell hlk
              simp only [Value.slice.injEq] at he1
              obtain ⟨rfl, _, rfl⟩ := he1
              have hzk := HZR.out _ (getD_mem hlk)
              rw [HN.out] at hzk
              have hit := inc_take o L hlk
              obtain ⟨z, hz2⟩ : ∃ z : Nat, L.getD k 0 = (z : Int) := ⟨(L.getD k 0).toNat, by omega⟩
              rw [hz2] at c1 hzk hit
              rw [Int.toNat_natCast] at hit
              have hzn : z < n := by omega
              have hzni : (z : Int) < (n : Int) := by omega
              have hol : (inc o (L.take k)).length = n := by rw [inc_len, HD.out.ol, HN.out]
              obtain ⟨c2, f2, hset⟩ := RowI.cell HRK.out (i := z) (by rw [hol]; exact hzn)
              have hnear := inc_near (L.take k) o z
              have hnear2 := HD.out.near (i := z) (by rw [HN.out]; exact hzn)
              rw [List.length_take] at hnear
              rw [HN.out, HM.out] at hnear2
              obtain ⟨V, hV⟩ : ∃ V, (inc o (L.take k)).getD z 0 = V := ⟨_, rfl⟩
              rw [hV] at c2 hit hnear
              have hVb : V ≤ 2000 := by omega
              have hVb2 : -2000 ≤ V := by omega
              have HNEXT : Hid (RowI (wr.setCell ⟨g, z, none⟩ (.int .i64 (V + 1))) g (inc o (L.take (k + 1)))) := Lib.hid (by rw [hit]; exact hset (V + 1))
              have HTN : Hid (Touch (· = g) w10 (wr.setCell ⟨g, z, none⟩ (.int .i64 (V + 1)))) := Lib.hid (touch_cell HTK.out)
              clear hz2 hit hset hnear hnear2 hV hol
              go_wp2_with fail
              go_roundw
              case rel => exact ⟨k + 1, by go_num, by omega, HNEXT.out, HTN.out⟩
              case measure => simp [intOf]; omega
            · have hki : ¬ (k : Int) < (L.length : Int) := by omega
              have hRL : Hid (RowI wr g (inc o L)) := Lib.hid (by have := HRK.out; rw [List.take_of_length_le (by omega)] at this; exact this)
              have HOL : Hid (OwnT g wr w7.heap.size (.slice l8a m8 l8c) ((ts.eraseIdx ia).eraseIdx ib)) := Lib.hid (HO10.out.set HR10.out HTK.out)
              have hXL : wr.heap[px]? = some (.cells #[.int .i64 (x.1.1 : Int), .int .i64 (x.1.2 : Int), .slice xa x.2.length xc] 70 (0, 0)) := (HTK.out.block px ((Array.getElem?_eq_some_iff.1 hX10.out).1) hpxg.out).trans hX10.out
              have hYL : wr.heap[py]? = some (.cells #[.int .i64 (y.1.1 : Int), .int .i64 (y.1.2 : Int), .slice ya y.2.length yc] 70 (0, 0)) := (HTK.out.block py ((Array.getElem?_eq_some_iff.1 hY10.out).1) hpyg.out).trans hY10.out
              have q1 : wr.cell? ⟨px, 0, none⟩ = some (.int .i64 (x.1.1 : Int)) := by rw [cell_of_row _ _ _ _ _ _ hXL]; rfl
              have q2 : wr.cell? ⟨py, 0, none⟩ = some (.int .i64 (y.1.1 : Int)) := by rw [cell_of_row _ _ _ _ _ _ hYL]; rfl
              obtain ⟨S, hS⟩ : ∃ S, x.1.1 + y.1.1 = S := ⟨_, rfl⟩
              have hSI : (x.1.1 : Int) + (y.1.1 : Int) = (S : Int) := by omega
              have hSb : S ≤ 400000000000000 := by omega
              have HDS3 : Hid (DS zs d ((ts.eraseIdx ia).eraseIdx ib ++ [((S, K), L)]) (inc o L) (K + 1)) := Lib.hid (by rw [← hS]; exact HDS2.out)
              have hux : Hid ((Value.slice a10 L.length c10).ownBlock ≠ some g) := Lib.hid (fun e => by
                have := (World.ownsRow.lt HOWN10.out g e).1
                have := hg8.out
                omega)
              have HUL : Hid (OwnI wr 0 (.slice a10 L.length c10) L) := Lib.hid (HLK.out.lower (Nat.zero_le _))
              have hbase : Hid (w7.heap.size ≤ wr.heap.size) := Lib.hid (by have := HTK.out.size; have := hs810.out; have := hsz8.out; omega)
              have HBL : Hid (Below w.heap.size w wr) := Lib.hid (HB10.out.trans (HTK.out.below (B := w.heap.size) HB10.out.size (fun i hi => by have e : i = g := hi; have := hgw.out; omega)))
              have hll : Hid (((ts.eraseIdx ia).eraseIdx ib).length + 1 ≤ 1000000) := Lib.hid (by rw [HL8.out]; omega)
              have HSS := Lib.hid hS
              have hw7w : Hid (w.heap.size ≤ w7.heap.size) := Lib.hid (by have := hgw.out; have := hg7.out; omega)
              clear hXL hYL hS
              go_wp2_with (at_builtin; go_loud (refine push_tree wr rfl _ _ rfl w7.heap.size wr.heap.size rfl (.slice l8a m8 l8c) ((ts.eraseIdx ia).eraseIdx ib) ((S, K), L) (.slice a10 L.length c10) HOL.out HUL.out hux.out rfl rfl hll.out hbase.out ?_))
              intro v12 w12 hown12 hb12
              have HOWN12 := Lib.hid hown12
              have HR12 : Hid (RowI w12 g (inc o L)) := Lib.hid ((hb12.block g hg7.out).trans hRL.out)
              have HB12 : Hid (Below w.heap.size w w12) := Lib.hid (HBL.out.trans (hb12.mono hw7w.out))
              have hv12 : Hid (vlen v12 = m8 + 1) := Lib.hid (by
                obtain ⟨a12, c12, rfl⟩ := hown12.slice
                show ((ts.eraseIdx ia).eraseIdx ib ++ [((S, K), L)]).length = m8 + 1
                rw [List.length_append, HL8.out]; rfl)
              clear hown12 hb12
              go_wp2_with fail
              go_roundw
              case rel => exact ⟨_, _, K + 1, _, w7.heap.size, rfl, by go_num, HOWN12.out, HDS3.out, HR12.out, by simp, HB12.out⟩
              case measure =>
                rw [hv12.out]
                show m8 + 1 < m
                have := HM8.out
                have := HM5.out
                omega
        · have hm2i : ¬ (1 : Int) < (m : Int) := by omega
          have hdep : Hid (DepP zs o) := Lib.hid (HD.out.end_ (by rw [HM.out]; omega))
          have hIo : Hid (IsInts wr (.slice (some ⟨g, 0, none⟩) n n) o) := Lib.hid (HR.out.ints n n (by rw [HD.out.ol, HN.out]))
          go_wp2_with fail
          go_ret
          have hloc : ∀ k, (Value.slice (some ⟨g, 0, none⟩) n n).ownBlock = some k → w.heap.size ≤ k := fun k hk => by
            simp only [Value.ownBlock, Option.some.injEq] at hk
            have := hgw.out
            omega
          first
            | exact ⟨_, o, rfl, hIo.out, hdep.out, HB.out, hloc⟩
            | exact ⟨_, rfl, o, hIo.out, hdep.out, HB.out, hloc⟩
theorem rDepths_any (v : Value) (zs : List Int) (w : World) (hv : IsInts w v zs) (h1 : 1 ≤ zs.length) (hz : zs.length ≤ 300) (hw : ∀ z ∈ zs, 0 ≤ z ∧ z ≤ 1099511627777) :
    Calls Tryd.prog 50 #[v] w fun e w' => ∃ (r : Value) (ds : List Int), e = .returned r ∧ IsInts w' r ds ∧ DepP zs ds ∧ Below w.heap.size w w' := by
  refine (rDepths_loc v zs w hv h1 hz hw).mono ?_
  rintro e w' ⟨r, ds, h1, h2, h3, h4, _⟩
  exact ⟨r, ds, h1, h2, h3, h4⟩
end Go.Proofs.YtmlcdfimcabgkaaDoor

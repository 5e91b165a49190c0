/-
  THE WALKS OF LAYER 9's CODE (package lens): a row copied; depths.
-/
import Derived.Test.YtmlcdfimcabgkaaDoorLenD
import Derived.Lib.SliceRun
namespace Go.Proofs.YtmlcdfimcabgkaaDoor
open Go.RowKit SymM HufM
set_option linter.unusedVariables false
theorem ArrD.ints {t : TypeId} {w : World} {g N : Nat} {d : Row} (h : ArrD t w g N d) {n : Nat} (hn : n ≤ N) (cap : Nat) : IsInts w (.slice (some ⟨g, 0, none⟩) n cap) ((List.range n).map d) := by
  refine ⟨some ⟨g, 0, none⟩, cap, by simp, fun i x hx => ⟨g, 0, rfl, ?_⟩⟩
  have hi := (List.getElem?_eq_some_iff.1 hx).1
  simp at hi
  rw [List.getElem?_map, List.getElem?_range hi] at hx
  simp only [Option.map_some, Option.some.injEq] at hx
  rw [Nat.zero_add, ← hx]
  exact (h.cell (show i < N by omega)).1
theorem slice515 (W : World) (b n : Nat) (hn : n ≤ 515) : (Instr.sliceAt 79 (.pointer (some ⟨b, 0, none⟩)) none (some (.int .i64 (n : Int))) none).run Tryd.prog W = .ok (.slice (some ⟨b, 0, none⟩) n 515) W := by
  have e : Tryd.prog.arrayLen 79 = 515 := by kernel_rfl
  have hs : (sizeOf (Tryd.prog.elem 79)).run Tryd.prog W = .ok 1 W := by kernel_rfl
  rw [run_sliceAt_array_h W _ ⟨b, 0, none⟩ (by kernel_rfl) .i64 (n : Int) (by omega) (by rw [e]; omega), hs]
  simp [Result.andThen, slicedAt, e, Addr.add]
set_option maxRecDepth 100000 in
set_option maxHeartbeats 2000000 in
theorem clone9_any (b off m c : Nat) (zs : List Int) (w : World) (hv : IsInts w (.slice (some ⟨b, off, none⟩) m c) zs) (hz : zs.length ≤ 1000000) :
    Calls Tryd.prog 61 #[.slice (some ⟨b, off, none⟩) m c] w fun e w' => ∃ r, e = .returned r ∧ IsInts w' r zs ∧ Below w.heap.size w w' ∧ (∀ k, r.ownBlock = some k → w.heap.size ≤ k) := by
  have HV := Lib.hid hv
  have hs1 : (w.alloc (.cells #[] 3)).heap.size = w.heap.size + 1 := by simp
  have HO : Hid (OwnI (w.alloc (.cells #[] 3)) w.heap.size (.slice (some ⟨w.heap.size, 0, none⟩) 0 0) []) := Lib.hid ⟨rfl, Or.inr ⟨w.heap.size, 0, #[], rfl, Nat.le_refl _, heap_alloc_new w _, Nat.le_refl _, by simp [maxLen], rfl, rfl⟩⟩
  have HB : Hid (Below w.heap.size w (w.alloc (.cells #[] 3))) := Lib.hid ((Below.refl _ w).alloc (Nat.le_refl _) _)
  have HV2 : Hid (IsInts (w.alloc (.cells #[] 3)) (.slice (some ⟨b, off, none⟩) m c) zs) := Lib.hid (hv.below HB.out)
  clear hv
  go_enter Tryd.func61, Tryd.ntmps61
  have hnil : ∀ W, (binOp .eql 22 (.slice (some ⟨b, off, none⟩) m c) (.slice none 0 0)).run Tryd.prog W = .ok (.bool false) W := fun W => Lib.run_eql_slice_nil W _ _ _ _ _ _ _ Tryd.underlying22
  go_upto_region 3 with fail
  go_step
  go_wp2_with (refine push_src (w.alloc (.cells #[] 3)) rfl _ _ rfl w.heap.size (.slice (some ⟨w.heap.size, 0, none⟩) 0 0) [] b off m c zs HO.out HV2.out rfl rfl (by simp; omega) (by rw [hs1]; omega) ?_)
  intro v' w' hown hb
  have HOWN := Lib.hid hown
  have HB2 := Lib.hid hb
  clear hown hb
  go_wp2_with fail
  go_ret
  exact ⟨v', rfl, HOWN.out.ints, HB.out.trans HB2.out, fun k hk => (HOWN.out.lt k hk).1⟩
set_option maxRecDepth 100000 in
set_option maxHeartbeats 4000000 in
theorem depths_loc (v : Value) (zs : List Int) (w : World) (hv : IsInts w v zs) (h2 : 2 ≤ zs.length) (hz : zs.length ≤ 258) (hpos : ∀ z ∈ zs, 0 ≤ z ∧ z ≤ 1099511627776) :
    Calls Tryd.prog 56 #[v] w fun e w' => ∃ (r : Value) (ds : List Int), e = .returned r ∧ IsInts w' r ds ∧ DepP zs ds ∧ Below w.heap.size w w' ∧ (∀ k, r.ownBlock = some k → w.heap.size ≤ k) := by
  have HV0 := Lib.hid hv
  have HPOS := Lib.hid hpos
  obtain ⟨a, cap, rfl, _⟩ := hv
  obtain ⟨n, hn⟩ : ∃ n, zs.length = n := ⟨_, rfl⟩
  have HN := Lib.hid hn
  rw [hn] at h2 hz ⊢
  clear hn hpos
  go_enter Tryd.func56, Tryd.ntmps56
  go_wp2_with fail
  refine (join_any (.slice a n cap) zs w (by rw [← HN.out]; exact HV0.out) (by rw [HN.out]; exact h2) (by rw [HN.out]; exact hz) HPOS.out).mono ?_
  rintro e w1 ⟨ab, rfl, hJ, hB⟩
  have HJ := Lib.hid hJ
  have HB := Lib.hid hB
  have hi := info515 ab
  have hall := rowA_cells 515 ab
  obtain ⟨RA, hRA⟩ : ∃ RA, rowA 515 ab = RA := ⟨_, rfl⟩
  rw [hRA] at hi hall
  have HRA := Lib.hid hRA
  rw [hRA]
  clear hJ hB
  have hzs : Tryd.zeroCells79.size = RA.size := by rw [zero515, rowA_size, ← hRA, rowA_size]
  have h0 : (w1.alloc (.cells Tryd.zeroCells79 79)).heap[w1.heap.size]? = some (.cells Tryd.zeroCells79 79 (0, 0)) := heap_alloc_new w1 _
  go_wp2_with (refine wpList_store_row rfl 79 _ _ rfl w1.heap.size RA rfl rfl 79 Tryd.zeroCells79 h0 hi hzs hall ?_)
  have hA0 : ArrD 79 ((w1.alloc (.cells Tryd.zeroCells79 79)).setRow w1.heap.size RA) w1.heap.size 515 ab := by
    have := setRow_heap _ _ _ RA _ _ h0
    rw [← hRA] at this ⊢
    exact this
  have hbs : Below w1.heap.size w1 ((w1.alloc (.cells Tryd.zeroCells79 79)).setRow w1.heap.size RA) := below_setRow ((Below.refl _ w1).alloc (Nat.le_refl _) _) (Nat.le_refl _) RA
  have hsz : ((w1.alloc (.cells Tryd.zeroCells79 79)).setRow w1.heap.size RA).heap.size = w1.heap.size + 1 := by simp [World.setRow]
  generalize (w1.alloc (.cells Tryd.zeroCells79 79)).setRow w1.heap.size RA = w2 at *
  obtain ⟨B3, hB3⟩ : ∃ B3, w1.heap.size = B3 := ⟨_, rfl⟩
  rw [hB3] at hA0 hbs hsz
  have hD0 : ArrD 79 (w2.alloc (.cells Tryd.zeroCells79 79)) (B3 + 1) 515 (fun _ => 0) := by
    have := heap_alloc_new w2 (.cells Tryd.zeroCells79 79)
    rw [hsz, zero515] at this
    rw [zero515]
    exact this
  have hA1 : ArrD 79 (w2.alloc (.cells Tryd.zeroCells79 79)) B3 515 ab := (Below.heap_alloc w2 _ _ (by rw [hsz]; omega)).trans hA0
  have hb2 : Below w.heap.size w (w2.alloc (.cells Tryd.zeroCells79 79)) := HB.out.trans ((hbs.alloc (by rw [hsz]; omega) _).mono (by rw [← hB3]; exact HB.out.size))
  have hlow : Hid (w.heap.size ≤ B3) := Lib.hid (by rw [← hB3]; exact HB.out.size)
  obtain ⟨d, hdep, hd0, hdb, hup⟩ := HJ.out.dep
  rw [HN.out] at hd0 hdb hup hdep
  have HA1 := Lib.hid hA1
  have HD0 := Lib.hid hD0
  have HB2 := Lib.hid hb2
  have HDEP := Lib.hid hdep
  have HUP := Lib.hid hup
  have HDB := Lib.hid hdb
  have HD00 := Lib.hid hd0
  rw [hB3]
  have hsz' := hsz
  clear hA0 hbs hA1 hD0 hb2 hdep hup hdb hd0 h0 hzs hi hall hRA hB3
  go_wp2_with fail
  generalize (w2.alloc (.cells Tryd.zeroCells79 79)) = w3 at *
  clear hsz hsz'
  go_loopw [6] (fun vt wr => ∃ (t : Nat) (x : Int) (dd : Row), vt = .int .i64 x ∧ x = (t : Int) - 1 ∧ t ≤ 2 * n - 2 ∧ ArrD 79 wr (B3 + 1) 515 dd ∧ ArrD 79 wr B3 515 ab ∧ (∀ k, t ≤ k → k ≤ 2 * n - 2 → dd k = (d k : Int)) ∧ Below w.heap.size w wr) (fun vt _ => (intOf vt + 1).toNat)
  case atStart => exact ⟨2 * n - 2, 2 * (n : Int) - 2 - 1, _, rfl, by omega, Nat.le_refl _, HD0.out, HA1.out, fun k h3 h4 => by
    obtain rfl : k = 2 * n - 2 := by omega
    rw [HD00.out]; rfl, HB2.out⟩
  case round =>
    obtain ⟨t, x, dd, rfl, hx, ht, hD, hA, hdd, hBw⟩ := hrel
    have HD := Lib.hid hD
    have HA := Lib.hid hA
    have HDD := Lib.hid hdd
    have HBW := Lib.hid hBw
    clear hD hA hdd hBw
    by_cases ht0 : 1 ≤ t
    · obtain ⟨s, hs⟩ : ∃ s, t = s + 1 := ⟨t - 1, by omega⟩
      obtain rfl : x = (s : Int) := by omega
      have HS := Lib.hid hs
      have hs515 : s < 515 := by omega
      have hs5 : (s : Int) < 515 := by omega
      obtain ⟨u, hu1, hu2, hu3, hu4⟩ := HUP.out s (by omega)
      have hu515 : u < 515 := by omega
      have hu5 : (u : Int) < 515 := by omega
      obtain ⟨c1, f1⟩ := HA.out.cell hs515
      obtain ⟨c2, f2⟩ := HD.out.cell hu515
      obtain ⟨c3, f3⟩ := HD.out.cell hs515
      rw [hu1] at c1
      rw [HDD.out u (by omega) hu3] at c2
      have hdu : d u ≤ 600 := by have := HDB.out u hu3; omega
      obtain ⟨q, hq⟩ : ∃ q, d u = q := ⟨_, rfl⟩
      rw [hq] at c2 hdu
      have HQ : Hid (d s = q + 1) := Lib.hid (by rw [hu4, hq])
      clear hs hu1 hu4 hq hx
      go_wp2_with fail
      go_roundw
      case rel => exact ⟨s, (s : Int) - 1, _, rfl, rfl, by have := HS.out; omega, HD.out.set hs515 ((q : Int) + 1), HA.out.other ((touch_cell (Touch.refl _ wr)) : Touch (· = B3 + 1) wr _) (fun h => by have h' : B3 = B3 + 1 := h; omega), fun k h3 h4 => by
        by_cases e : k = s
        · subst e; simp only [if_true]; rw [HQ.out]; rfl
        · simp only [e, if_false]; exact HDD.out k (by have := HS.out; omega) h4, HBW.out.setCell (p := ⟨B3 + 1, s, none⟩) (by show w.heap.size ≤ B3 + 1; have := hlow.out; omega) _⟩
      case measure => simp [intOf]
    · obtain rfl : t = 0 := by omega
      have hx0 : ¬ (0 : Int) ≤ x := by omega
      have hI := HD.out.ints (show n ≤ 515 by omega) 515
      have HI : Hid (IsInts wr (.slice (some ⟨B3 + 1, 0, none⟩) n 515) ((List.range n).map fun i => (d i : Int))) := Lib.hid (by
        have e : (List.range n).map dd = (List.range n).map fun i => (d i : Int) := List.map_congr_left (fun i hi => HDD.out i (Nat.zero_le _) (by have := List.mem_range.1 hi; omega))
        rw [← e]; exact hI)
      clear hI
      have hsl := fun W => slice515 W (B3 + 1) n (by omega)
      go_wp2_with fail
      refine (clone9_any (B3 + 1) 0 n 515 _ wr HI.out (by simp; omega)).mono ?_
      rintro e w4 ⟨r, rfl, hr, hb, ho⟩
      have HR := Lib.hid hr
      have HBB := Lib.hid hb
      have HOO : Hid (∀ k, r.ownBlock = some k → w.heap.size ≤ k) := Lib.hid (fun k hk => Nat.le_trans HBW.out.size (ho k hk))
      clear hr hb ho
      go_wp2_with fail
      go_ret
      exact ⟨_, _, rfl, HR.out, HDEP.out, HBW.out.trans (HBB.out.mono HBW.out.size), HOO.out⟩
theorem depths_any (v : Value) (zs : List Int) (w : World) (hv : IsInts w v zs) (h2 : 2 ≤ zs.length) (hz : zs.length ≤ 258) (hpos : ∀ z ∈ zs, 0 ≤ z ∧ z ≤ 1099511627776) :
    Calls Tryd.prog 56 #[v] w fun e w' => ∃ (r : Value) (ds : List Int), e = .returned r ∧ IsInts w' r ds ∧ DepP zs ds ∧ Below w.heap.size w w' := by
  refine (depths_loc v zs w hv h2 hz hpos).mono ?_
  rintro e w' ⟨r, ds, h1, h2, h3, h4, _⟩
  exact ⟨r, ds, h1, h2, h3, h4⟩
end Go.Proofs.YtmlcdfimcabgkaaDoor

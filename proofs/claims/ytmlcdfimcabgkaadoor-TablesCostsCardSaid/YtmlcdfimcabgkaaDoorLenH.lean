/-
  THE WALKS OF LAYER 9's CODE (package lens): Depths, Of.
-/
import Derived.Test.YtmlcdfimcabgkaaDoorLenE
import Derived.Test.YtmlcdfimcabgkaaDoorLenG
import Derived.Deep.LoopGhost
namespace Go.Proofs.YtmlcdfimcabgkaaDoor
open Go.RowKit HufM
set_option linter.unusedVariables false
def DepthsOk (zs : List Int) : Prop := 2 ≤ zs.length ∧ zs.length ≤ 258 ∧ Within 1 1099511627776 zs
/-- What Depths tells. -/
def DepthsP (zs rs : List Int) (err : Nat) : Prop := (¬ DepthsOk zs ∧ rs = [] ∧ err = 1) ∨ (DepthsOk zs ∧ DepP zs rs ∧ err = 0)
/-- Counts as weights: 1 at least. -/
def ups (zs : List Int) : List Int := zs.map fun x => if x < 1 then 1 else x
def OfOk (zs : List Int) : Prop := 3 ≤ zs.length ∧ zs.length ≤ 258 ∧ Within 0 1099511627776 zs
/-- What Of tells. -/
def OfP (zs rs : List Int) (err : Nat) : Prop := (¬ OfOk zs ∧ rs = [] ∧ err = 1) ∨ (OfOk zs ∧ (∃ n, n ≤ 40 ∧ OfR n (ups zs) rs) ∧ err = 0)
theorem ups_bd {zs : List Int} (h : Within 0 1099511627776 zs) : Bd 40 (ups zs) := by
  intro y hy
  obtain ⟨x, hx, rfl⟩ := List.mem_map.1 hy
  have := h x hx
  have e : ((2 ^ 40 + 1 : Nat) : Int) = 1099511627777 := by decide
  rw [e]
  split <;> omega
theorem ups_len (zs : List Int) : (ups zs).length = zs.length := by simp [ups]
/-- Weights on the way: what is left of the halvings. -/
def Way (us ws : List Int) (m : Nat) : Prop := ∀ n rs, OfR n ws rs → OfR (n + m) us rs
theorem hvs_within {zs : List Int} (h : ∀ z ∈ zs, 0 ≤ z ∧ z ≤ 1099511627777) : ∀ z ∈ hvs zs, 0 ≤ z ∧ z ≤ 1099511627776 := by
  intro y hy
  obtain ⟨x, hx, rfl⟩ := List.mem_map.1 hy
  have := h x hx
  unfold hv
  rw [if_neg (by omega)]
  omega
set_option maxRecDepth 100000 in
set_option maxHeartbeats 2000000 in
theorem of_loc (v : Value) (zs : List Int) (w : World) (hv : IsInts w v zs) (hz : zs.length ≤ 9223372036854775807) :
    Calls Tryd.prog 49 #[v] w fun e w' => ∃ (r : Value) (rs : List Int) (err : Nat), e = .returned (.tuple #[r, .int .i64 (err : Int)]) ∧ IsInts w' r rs ∧ OfP zs rs err ∧ Below w.heap.size w w' ∧ (∀ k, r.ownBlock = some k → w.heap.size ≤ k) := by
  have HV := Lib.hid hv
  have HNIL : Hid (IsInts w (.slice none 0 0) []) := Lib.hid (IsInts.nil w)
  obtain ⟨ad, cap, rfl, _⟩ := hv
  by_cases h1 : zs.length < 3
  · have h1b : (zs.length : Int) < 3 := by omega
    go_enter Tryd.func49, Tryd.ntmps49
    go_wp2_with fail
    go_ret2
    exact ⟨_, [], 1, rfl, HNIL.out, Or.inl ⟨fun h => by have := h.1; omega, rfl, rfl⟩, Below.refl _ _, fun k hk => absurd hk (by simp [Value.ownBlock])⟩
  · have h1b : decide ((zs.length : Int) < 3) = false := by simp only [decide_eq_false_iff_not]; omega
    by_cases h2 : 258 < zs.length
    · have h2b : 258 < (zs.length : Int) := by omega
      go_enter Tryd.func49, Tryd.ntmps49
      go_wp2_with fail
      go_ret2
      exact ⟨_, [], 1, rfl, HNIL.out, Or.inl ⟨fun h => by have := h.2.1; omega, rfl, rfl⟩, Below.refl _ _, fun k hk => absurd hk (by simp [Value.ownBlock])⟩
    · have h2b : decide (258 < (zs.length : Int)) = false := by simp only [decide_eq_false_iff_not]; omega
      by_cases hw : Within 0 1099511627776 zs
      · have HW := Lib.hid hw
        have HA := Lib.hid (areWithin_any _ zs 0 1099511627776 true w HV.out ⟨fun _ => hw, fun _ => rfl⟩ hz)
        obtain ⟨n0, rs, hn0, hof⟩ := OfR.exists 40 (ups zs) (ups_bd hw) (by rw [ups_len]; omega) (by rw [ups_len]; omega)
        have HOF := Lib.hid hof
        clear hw hof
        obtain ⟨N, hN⟩ : ∃ N, zs.length = N := ⟨_, rfl⟩
        have HN := Lib.hid hN
        rw [hN] at h1 h1b h2 h2b hz HV HA ⊢
        have hmk := make_ints N (by omega) w
        have HR0 := Lib.hid (RowI.made w N)
        have hb0 : Hid (Below w.heap.size w (w.alloc (.cells (madeCells #[Value.int .i64 0] N) 3))) := Lib.hid ((Below.refl _ w).alloc (Nat.le_refl _) _)
        obtain ⟨g, hg⟩ : ∃ g, w.heap.size = g := ⟨_, rfl⟩
        have HG := Lib.hid hg
        rw [hg] at hmk HR0
        clear hN hg
        go_enter Tryd.func49, Tryd.ntmps49
        go_wp2_with fail
        refine HA.out.mono ?_
        rintro e w1 ⟨rfl, rfl⟩
        go_wp2_with fail
        generalize w1.alloc (.cells (madeCells #[Value.int .i64 0] N) 3) = w2 at *
        go_wp2_with fail
        go_loopw [26] (fun i wr => ∃ k : Nat, k ≤ N ∧ i = .int .i64 k ∧ RowI wr g (ups (zs.take k) ++ List.replicate (N - k) 0) ∧ Below w1.heap.size w1 wr) (fun i _ => N - (intOf i).toNat)
        case atStart => exact ⟨0, Nat.zero_le _, rfl, by simpa [ups] using HR0.out, hb0.out⟩
        case round =>
          obtain ⟨k, hk, rfl, hR, hB⟩ := hrel
          have HR := Lib.hid hR
          have HB := Lib.hid hB
          have hlen : (ups (zs.take k)).length = k := by rw [ups_len, List.length_take, HN.out]; omega
          by_cases hlk : k < N
          · have hki : (k : Int) < (N : Int) := by omega
            obtain ⟨b1, o1, k1, he1, c1⟩ := HV.out.cell (show k < zs.length by rw [HN.out]; exact hlk)
            rw [HN.out] at he1
            simp only [Value.slice.injEq] at he1
            obtain ⟨rfl, _, rfl⟩ := he1
            have c1 := (HB.out.cell (cell_lt c1)).trans c1
            obtain ⟨x, hx⟩ : ∃ x, zs.getD k 0 = x := ⟨_, rfl⟩
            rw [hx] at c1
            obtain ⟨c2, f2, hset⟩ := RowI.cell hR (i := k) (by rw [List.length_append, hlen, List.length_replicate]; omega)
            generalize (ups (zs.take k) ++ List.replicate (N - k) 0).getD k 0 = y at c2
            have hnext : Hid (RowI (wr.setCell ⟨g, k, none⟩ (.int .i64 (if x < 1 then 1 else x))) g (ups (zs.take (k + 1)) ++ List.replicate (N - (k + 1)) 0)) := Lib.hid (by
              have h1 := hset (if x < 1 then 1 else x)
              have h2 := set_next (ups (zs.take k)) (N - (k + 1)) (if x < 1 then 1 else x)
              rw [hlen, show N - (k + 1) + 1 = N - k by omega] at h2
              rw [h2] at h1
              have h3 : ups (zs.take (k + 1)) = ups (zs.take k) ++ [if x < 1 then 1 else x] := by
                unfold ups
                rw [List.take_add_one, List.map_append, List.getElem?_eq_getElem (show k < zs.length by rw [HN.out]; exact hlk)]
                congr 1
                have hx2 : zs[k]'(by rw [HN.out]; exact hlk) = x := by rw [← hx, List.getD_eq_getElem?_getD, List.getElem?_eq_getElem (show k < zs.length by rw [HN.out]; exact hlk)]; rfl
                simp only [Option.toList_some, List.map_cons, List.map_nil, hx2]
              rw [h3]
              exact h1)
            have hbn : Hid (Below w1.heap.size w1 (wr.setCell ⟨g, k, none⟩ (.int .i64 (if x < 1 then 1 else x)))) := Lib.hid (HB.out.setCell (p := ⟨g, k, none⟩) (by rw [HG.out]; exact Nat.le_refl g) _)
            clear hR hB hset hx hlen
            go_wp2_with fail
            go_roundw
            case rel => exact ⟨k + 1, by omega, by go_num, hnext.out, hbn.out⟩
            case measure => simp [intOf]; omega
          · have hki : ¬ (k : Int) < (N : Int) := by omega
            obtain rfl : N = k := by omega
            have h := HR.out.ints N N (by rw [List.length_append, hlen]; simp)
            have e : ups (zs.take N) ++ List.replicate (N - N) 0 = ups zs := by
              rw [Nat.sub_self, List.replicate_zero, List.append_nil, List.take_of_length_le (Nat.le_of_eq HN.out)]
            rw [e] at h
            have HI := Lib.hid h
            have hul : Hid ((ups zs).length = N) := Lib.hid (by rw [ups_len, HN.out])
            clear h e hR hB hlen
            go_wp2_with fail
            refine (depths_loc _ (ups zs) wr HI.out (by rw [hul.out]; omega) (by rw [hul.out]; omega) (fun z hz => by
              obtain ⟨x, hx, rfl⟩ := List.mem_map.1 hz
              have := HW.out x hx
              split <;> omega)).mono ?_
            rintro e w3 ⟨r, ds, rfl, hi, hd, hb, ho⟩
            have HO3 : Hid (∀ k, r.ownBlock = some k → w1.heap.size ≤ k) := Lib.hid (fun k hk => Nat.le_trans HB.out.size (ho k hk))
            have HI3 := Lib.hid hi
            have HD3 := Lib.hid hd
            have HB3 : Hid (Below w1.heap.size w1 w3) := Lib.hid (HB.out.trans (hb.mono HB.out.size))
            have HU3 : Hid (IsInts w3 (.slice (some ⟨g, 0, none⟩) N N) (ups zs)) := Lib.hid (HI.out.below hb)
            clear hi hd hb ho
            go_wp2_with fail
            go_loopg [5, 8] n0 (fun gk vw vl wr => ∃ (ws ds : List Int), IsInts wr vw ws ∧ IsInts wr vl ds ∧ DepP ws ds ∧ ws.length = N ∧ (∀ z ∈ ws, 0 ≤ z ∧ z ≤ 1099511627776) ∧ OfR gk ws rs ∧ Below w1.heap.size w1 wr ∧ (∀ k, vl.ownBlock = some k → w1.heap.size ≤ k))
            case atStart => exact ⟨ups zs, ds, HU3.out, HI3.out, HD3.out, hul.out, fun z hz => by
              obtain ⟨x, hx, rfl⟩ := List.mem_map.1 hz
              have := HW.out x hx
              split <;> omega, HOF.out, HB3.out, HO3.out⟩
            case round =>
              obtain ⟨ws, ds2, hws, hds, hdp, hwl, hwb, hor, hB4, hO4⟩ := hrel
              have HO4 := Lib.hid hO4
              clear hO4
              have HWS := Lib.hid hws
              have HDS := Lib.hid hds
              have HDP := Lib.hid hdp
              have HWL := Lib.hid hwl
              have HWB := Lib.hid hwb
              have HOR := Lib.hid hor
              have HB4 := Lib.hid hB4
              have hdl : ds2.length ≤ 9223372036854775807 := by have := hdp.len; omega
              have HLG := Lib.hid (longest_any _ ds2 wr hds hdl)
              obtain ⟨a1, cap1, rfl, _⟩ := hws
              obtain ⟨a2, cap2, rfl, _⟩ := hds
              clear hdp hwl hwb hor hB4
              by_cases hgt : 20 < lg ds2
              · have hno : Hid (¬ ∀ y ∈ ds2, y ≤ 20) := Lib.hid (fun h => by have := (lg_le (zs := ds2) (b := 20) (by decide)).2 h; omega)
                obtain ⟨k, hk, hor2⟩ : ∃ k, gk = k + 1 ∧ OfR k (hvs ws) rs := by
                  cases HOR.out with
                  | now _ _ k1 k2 => exact absurd (by rw [HDP.out.same k1]; exact k2) hno.out
                  | later n _ ys _ k1 k2 k3 => exact ⟨n, rfl, k3⟩
                have HOR2 := Lib.hid hor2
                have HK := Lib.hid hk
                obtain ⟨G, hG⟩ : ∃ G, lg ds2 = G := ⟨_, rfl⟩
                rw [hG] at hgt HLG
                clear hor2 hk hG
                go_wp2_with fail
                refine HLG.out.mono ?_
                rintro e w4 ⟨rfl, rfl⟩
                go_wp2_with fail
                refine (halved_any _ ws w4 HWS.out (by rw [HWL.out]; omega) (fun z hz => by have := HWB.out z hz; omega)).mono ?_
                rintro e w5 ⟨r5, rfl, hi5, hb5⟩
                have HI5 := Lib.hid hi5
                have HB5 := Lib.hid hb5
                clear hi5 hb5
                go_wp2_with fail
                refine (depths_loc _ (hvs ws) w5 HI5.out (by rw [hvs_len, HWL.out]; omega) (by rw [hvs_len, HWL.out]; omega) (hvs_within (fun z hz => by have := HWB.out z hz; omega))).mono ?_
                rintro e w6 ⟨r6, ds6, rfl, hi6, hd6, hb6, ho6⟩
                have HO6 : Hid (∀ k, r6.ownBlock = some k → w1.heap.size ≤ k) := Lib.hid (fun k hk => Nat.le_trans (Nat.le_trans HB4.out.size HB5.out.size) (ho6 k hk))
                have HI6 := Lib.hid hi6
                have HD6 := Lib.hid hd6
                have HB6 := Lib.hid hb6
                clear hi6 hd6 hb6 ho6
                go_wp2_with fail
                go_roundg k
                case rel => exact ⟨hvs ws, ds6, HI5.out.below HB6.out, HI6.out, HD6.out, by rw [hvs_len, HWL.out], hvs_within (fun z hz => by have := HWB.out z hz; omega), HOR2.out, HB4.out.trans ((HB5.out.mono HB4.out.size).trans (HB6.out.mono (Nat.le_trans HB4.out.size HB5.out.size))), HO6.out⟩
                case measure => have := HK.out; omega
              · have hrs : Hid (rs = ds2) := Lib.hid (by
                  have h20 : ∀ y ∈ ds2, y ≤ 20 := (lg_le (zs := ds2) (b := 20) (by decide)).1 (by omega)
                  cases HOR.out with
                  | now _ _ k1 k2 => exact k1.same HDP.out
                  | later n _ ys _ k1 k2 k3 => exact absurd (by rw [← HDP.out.same k1]; exact h20) k2)
                obtain ⟨G, hG⟩ : ∃ G, lg ds2 = G := ⟨_, rfl⟩
                rw [hG] at hgt HLG
                clear hG
                go_wp2_with fail
                refine HLG.out.mono ?_
                rintro e w4 ⟨rfl, rfl⟩
                go_wp2_with fail
                go_ret2
                exact ⟨_, ds2, 0, rfl, HDS.out, Or.inr ⟨⟨by have := HN.out; omega, by have := HN.out; omega, HW.out⟩, ⟨n0, hn0, by rw [← hrs.out]; exact HOF.out⟩, rfl⟩, HB4.out, HO4.out⟩
      · have HW := Lib.hid hw
        have HA := Lib.hid (areWithin_any _ zs 0 1099511627776 false w HV.out ⟨fun h => (by cases h), fun h => absurd h hw⟩ hz)
        clear hw
        go_enter Tryd.func49, Tryd.ntmps49
        go_wp2_with fail
        refine HA.out.mono ?_
        rintro e w1 ⟨rfl, rfl⟩
        go_wp2_with fail
        go_ret2
        exact ⟨_, [], 1, rfl, HNIL.out, Or.inl ⟨fun h => HW.out h.2.2, rfl, rfl⟩, Below.refl _ _, fun k hk => absurd hk (by simp [Value.ownBlock])⟩
theorem of_any (v : Value) (zs : List Int) (w : World) (hv : IsInts w v zs) (hz : zs.length ≤ 9223372036854775807) :
    Calls Tryd.prog 49 #[v] w fun e w' => ∃ (r : Value) (rs : List Int) (err : Nat), e = .returned (.tuple #[r, .int .i64 (err : Int)]) ∧ IsInts w' r rs ∧ OfP zs rs err ∧ Below w.heap.size w w' := by
  refine (of_loc v zs w hv hz).mono ?_
  rintro e w' ⟨r, rs, err, h1, h2, h3, h4, _⟩
  exact ⟨r, rs, err, h1, h2, h3, h4⟩
end Go.Proofs.YtmlcdfimcabgkaaDoor

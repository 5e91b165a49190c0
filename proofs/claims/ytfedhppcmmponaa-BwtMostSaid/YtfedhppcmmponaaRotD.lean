/-
  THE DOCUMENT's SORTED PLACES (balerref15.Sorted), walked.
-/
import Derived.Test.YtfedhppcmmponaaRotB
import Derived.Test.YtfedhppcmmponaaInts
namespace Go.Proofs.Ytfedhppcmmponaa
open Go.RowKit BwtM PkM
set_option linter.unusedVariables false
/-- Where an insertion stands: nx is laid, l is still to be looked at. -/
def InsAt (T : List UInt8) (i : Nat) (L nx l : List Nat) (put : Bool) : Prop := (put = true ∧ nx ++ l = insP T i L) ∨ (put = false ∧ nx ++ insP T i l = insP T i L)
theorem InsAt.start (T : List UInt8) (i : Nat) (L : List Nat) : InsAt T i L [] L false := Or.inr ⟨rfl, rfl⟩
theorem InsAt.go {T : List UInt8} {i x : Nat} {L nx l : List Nat} {put : Bool} (h : InsAt T i L nx (x :: l) put) :
    (put = true ∧ InsAt T i L (nx ++ [x]) l true) ∨ (put = false ∧ Ahead T i x ∧ InsAt T i L (nx ++ [i] ++ [x]) l true) ∨ (put = false ∧ ¬ Ahead T i x ∧ InsAt T i L (nx ++ [x]) l false) := by
  rcases h with ⟨rfl, h⟩ | ⟨rfl, h⟩
  · exact Or.inl ⟨rfl, Or.inl ⟨rfl, by rw [← h]; simp⟩⟩
  · by_cases ha : Ahead T i x
    · refine Or.inr (Or.inl ⟨rfl, ha, Or.inl ⟨rfl, ?_⟩⟩)
      rw [← h, insP, if_pos ha]
      simp
    · refine Or.inr (Or.inr ⟨rfl, ha, Or.inr ⟨rfl, ?_⟩⟩)
      rw [← h, insP, if_neg ha]
      simp
theorem InsAt.last {T : List UInt8} {i : Nat} {L nx : List Nat} {put : Bool} (h : InsAt T i L nx [] put) : (put = true ∧ nx = insP T i L) ∨ (put = false ∧ nx ++ [i] = insP T i L) := by
  rcases h with ⟨rfl, h⟩ | ⟨rfl, h⟩
  · exact Or.inl ⟨rfl, by rw [← h, List.append_nil]⟩
  · exact Or.inr ⟨rfl, by rw [← h]; rfl⟩
theorem sortP_length (T : List UInt8) (k : Nat) : (sortP T k).length = k := by rw [(sortP_perm T k).length_eq, List.length_range]
theorem sortP_lt {T : List UInt8} {k x : Nat} (h : x ∈ sortP T k) : x < k := List.mem_range.1 ((sortP_perm T k).mem_iff.1 h)
set_option maxRecDepth 100000 in
set_option maxHeartbeats 4000000 in
theorem rsorted_any (s : ByteArray) (w : World) (hs : s.size ≤ 1000000) :
    Calls Try.prog 18 #[.string s] w fun e w' => ∃ v, e = .returned v ∧ OwnI w' w.heap.size v (toI (sortP s.data.toList s.size)) ∧ Below w.heap.size w w' := by
  have HAH := Lib.hid (fun i k r W (hi : i < s.size) (hk : k < s.size) hr => rahead_any s i k r W (by omega) hi hk hr)
  obtain ⟨n, hn⟩ : ∃ n, s.size = n := ⟨_, rfl⟩
  have HN := Lib.hid hn
  rw [hn] at hs HAH
  go_enter Try.func18, Try.ntmps18
  go_wp2_with fail
  go_loopw [3, 11] (fun vo vi wr => ∃ (i : Nat) (v : Value), vi = .int .i64 (i : Int) ∧ v = vo ∧ i ≤ n ∧ OwnI wr w.heap.size v (toI (sortP s.data.toList i)) ∧ Below w.heap.size w wr) (fun _ vi _ => n - (intOf vi).toNat)
  case atStart => exact ⟨0, _, rfl, rfl, by omega, OwnI.nil _ _, Below.refl _ _⟩
  case round =>
    obtain ⟨i, v, rfl, rfl, hi, hO, hB⟩ := hrel
    have HO := Lib.hid hO
    have HB := Lib.hid hB
    have HBS := Lib.hid hB.size
    clear hO hB
    by_cases hin : i < n
    · have hii : (i : Int) < (n : Int) := by omega
      obtain ⟨oa, oc, rfl⟩ := HO.out.slice
      have hlen : (toI (sortP s.data.toList i)).length = i := by rw [toI_length, sortP_length]
      rw [hlen] at HO ⊢
      have HLEN := Lib.hid hlen
      clear hlen
      go_wp2_with fail
      obtain ⟨wa, rfl⟩ : ∃ wa : World, wa = wr := ⟨_, rfl⟩
      go_loopw [5, 6, 16] (fun vx vp vj wr => ∃ (j : Nat) (u : Value) (nx : List Nat) (put : Bool), vj = .int .i64 (j : Int) ∧ u = vx ∧ vp = .bool put ∧ j ≤ i ∧ nx.length ≤ 2 * j ∧ InsAt s.data.toList i (sortP s.data.toList i) nx ((sortP s.data.toList i).drop j) put ∧ OwnI wr wa.heap.size u (toI nx) ∧ Below wa.heap.size wa wr) (fun _ _ vj _ => i - (intOf vj).toNat)
      case atStart => exact ⟨0, _, [], false, rfl, rfl, rfl, by omega, by simp, InsAt.start _ _ _, OwnI.nil _ _, Below.refl _ _⟩
      case round =>
        obtain ⟨j, u, nx, put, rfl, rfl, rfl, hj, hnx, hI, hU, hBI⟩ := hrel
        have HI := Lib.hid hI
        have HU := Lib.hid hU
        have HBI := Lib.hid hBI
        have HBIS := Lib.hid hBI.size
        have hl1 : (toI nx).length + 1 ≤ 17592186044416 := by rw [toI_length]; omega
        clear hI hU hBI
        by_cases hji : j < i
        · have hjii : (j : Int) < (i : Int) := by omega
          have HV2 := Lib.hid (HO.out.ints.below (HBI.out.mono (Nat.le_refl _)))
          obtain ⟨b1, o1, k1, he1, c1⟩ := HV2.out.cell (show j < (toI (sortP s.data.toList i)).length by rw [HLEN.out]; exact hji)
          rw [HLEN.out] at he1
          simp only [Value.slice.injEq] at he1
          obtain ⟨rfl, _, rfl⟩ := he1
          rw [toI_getD] at c1
          have hjl : j < (sortP s.data.toList i).length := by rw [sortP_length]; exact hji
          have hdr : (sortP s.data.toList i).drop j = (sortP s.data.toList i).getD j 0 :: (sortP s.data.toList i).drop (j + 1) := by
            rw [List.getD_eq_getElem?_getD, List.getElem?_eq_getElem hjl]
            exact List.drop_eq_getElem_cons hjl
          have hxl : (sortP s.data.toList i).getD j 0 < i := sortP_lt (by
            rw [List.getD_eq_getElem?_getD, List.getElem?_eq_getElem hjl]
            exact List.getElem_mem hjl)
          rw [hdr] at HI
          obtain ⟨x, hx⟩ : ∃ x, (sortP s.data.toList i).getD j 0 = x := ⟨_, rfl⟩
          rw [hx] at HI c1 hxl
          have hgo := HI.out.go
          clear hdr hx hjl
          rcases hgo with ⟨rfl, hgo⟩ | ⟨rfl, ha, hgo⟩ | ⟨rfl, ha, hgo⟩
          · have HGO := Lib.hid hgo
            clear hgo
            go_wp2_with (at_builtin; refine push_int wr rfl _ _ rfl wa.heap.size _ (toI nx) (x : Int) HU.out rfl rfl hl1 HBIS.out ?_)
            intro u2 w2 hO2 hB2
            have HU2 : Hid (OwnI w2 wa.heap.size u2 (toI (nx ++ [x]))) := Lib.hid (by rw [toI_app]; exact hO2)
            have HB2 := Lib.hid (HBI.out.trans hB2)
            clear hO2 hB2
            go_wp2_with fail
            go_roundw
            case rel => exact ⟨j + 1, u2, nx ++ [x], true, by go_num, rfl, rfl, by omega, by simp; omega, HGO.out, HU2.out, HB2.out⟩
            case measure => simp [intOf]; omega
          · have HGO := Lib.hid hgo
            have HA := Lib.hid (HAH.out i x true wr hin (by omega) ⟨fun _ => ha, fun _ => rfl⟩)
            clear hgo ha
            go_wp2_with fail
            refine HA.out.mono ?_
            rintro e w1 ⟨rfl, hb1⟩
            have HU1 := Lib.hid (HU.out.below hb1)
            have HB1 := Lib.hid (HBI.out.trans (hb1.mono HBI.out.size))
            have HBS1 := Lib.hid HB1.out.size
            have HV3 := Lib.hid (HV2.out.below hb1)
            clear hb1
            go_wp2_with (at_builtin; refine push_int w1 rfl _ _ rfl wa.heap.size _ (toI nx) (i : Int) HU1.out rfl rfl hl1 HBS1.out ?_)
            intro u2 w2 hO2 hB2
            have HU2 : Hid (OwnI w2 wa.heap.size u2 (toI (nx ++ [i]))) := Lib.hid (by rw [toI_app]; exact hO2)
            have HB2 := Lib.hid (HB1.out.trans hB2)
            have HBS2 := Lib.hid HB2.out.size
            have hl2 : (toI (nx ++ [i])).length + 1 ≤ 17592186044416 := by rw [toI_length, List.length_append, List.length_singleton]; omega
            clear hO2 hB2
            go_wp2_with (at_builtin; refine push_int w2 rfl _ _ rfl wa.heap.size _ (toI (nx ++ [i])) (x : Int) HU2.out rfl rfl hl2 HBS2.out ?_)
            intro u3 w3 hO3 hB3
            have HU3 : Hid (OwnI w3 wa.heap.size u3 (toI (nx ++ [i] ++ [x]))) := Lib.hid (by rw [toI_app (nx ++ [i])]; exact hO3)
            have HB3 := Lib.hid (HB2.out.trans hB3)
            clear hO3 hB3
            go_wp2_with fail
            go_roundw
            case rel => exact ⟨j + 1, u3, nx ++ [i] ++ [x], true, by go_num, rfl, rfl, by omega, by simp; omega, HGO.out, HU3.out, HB3.out⟩
            case measure => simp [intOf]; omega
          · have HGO := Lib.hid hgo
            have HA := Lib.hid (HAH.out i x false wr hin (by omega) ⟨fun e => (by cases e), fun e => absurd e ha⟩)
            clear hgo ha
            go_wp2_with fail
            refine HA.out.mono ?_
            rintro e w1 ⟨rfl, hb1⟩
            have HU1 := Lib.hid (HU.out.below hb1)
            have HB1 := Lib.hid (HBI.out.trans (hb1.mono HBI.out.size))
            have HBS1 := Lib.hid HB1.out.size
            clear hb1
            go_wp2_with (at_builtin; refine push_int w1 rfl _ _ rfl wa.heap.size _ (toI nx) (x : Int) HU1.out rfl rfl hl1 HBS1.out ?_)
            intro u2 w2 hO2 hB2
            have HU2 : Hid (OwnI w2 wa.heap.size u2 (toI (nx ++ [x]))) := Lib.hid (by rw [toI_app]; exact hO2)
            have HB2 := Lib.hid (HB1.out.trans hB2)
            clear hO2 hB2
            go_wp2_with fail
            go_roundw
            case rel => exact ⟨j + 1, u2, nx ++ [x], false, by go_num, rfl, rfl, by omega, by simp; omega, HGO.out, HU2.out, HB2.out⟩
            case measure => simp [intOf]; omega
        · have hjii : ¬ (j : Int) < (i : Int) := by omega
          have hl := HI.out
          rw [List.drop_of_length_le (by rw [sortP_length]; omega)] at hl
          have HBT : Hid (Below w.heap.size w wr) := Lib.hid (HB.out.trans (HBI.out.mono HB.out.size))
          have hq := hl.last
          clear hl
          rcases hq with ⟨rfl, hq⟩ | ⟨rfl, hq⟩
          · have HU2 : Hid (OwnI wr w.heap.size u (toI (sortP s.data.toList (i + 1)))) := Lib.hid (by
              rw [show sortP s.data.toList (i + 1) = nx from hq.symm]
              exact HU.out.lower HBS.out)
            clear hq
            go_wp2_with fail
            go_roundw
            case rel => exact ⟨i + 1, u, by go_num, rfl, by omega, HU2.out, HBT.out⟩
            case measure => simp [intOf]; omega
          · have HL : Hid (nx ++ [i] = sortP s.data.toList (i + 1)) := Lib.hid hq
            clear hq
            go_wp2_with (at_builtin; refine push_int wr rfl _ _ rfl wa.heap.size _ (toI nx) (i : Int) HU.out rfl rfl hl1 HBIS.out ?_)
            intro u2 w2 hO2 hB2
            have HU2 : Hid (OwnI w2 w.heap.size u2 (toI (sortP s.data.toList (i + 1)))) := Lib.hid (by
              rw [← HL.out, toI_app]
              exact OwnI.lower hO2 HBS.out)
            have HB2 : Hid (Below w.heap.size w w2) := Lib.hid (HBT.out.trans (hB2.mono HBS.out))
            clear hO2 hB2
            go_wp2_with fail
            go_roundw
            case rel => exact ⟨i + 1, u2, by go_num, rfl, by omega, HU2.out, HB2.out⟩
            case measure => simp [intOf]; omega
    · have hii : ¬ (i : Int) < (n : Int) := by omega
      obtain rfl : i = n := by omega
      go_wp2_with fail
      go_ret
      exact ⟨_, rfl, HO.out, HB.out⟩
end Go.Proofs.Ytfedhppcmmponaa

/-
  LAYER 7's STATEMENTS: ZerosReads.
-/
import Derived.Test.YthfdmmlamomlkaaZerLawA
import Derived.Test.YthfdmmlamomlkaaZerRefG
import Derived.Deep.Cut
namespace Go.Proofs.Ythfdmmlamomlkaa
open Go.RowKit ZerM
set_option linter.unusedVariables false
theorem put_link {n : Int} {M : Nat} {s : St} {x : Int} {b g : Nat} {w w' : World} {e : Ending} (hp : PutP n M s x b w e w') (hk : Ok M s) :
    ∃ (s2 : St) (Z P E : Int), e = .returned (.tuple #[.int .i64 Z, .int .i64 P, .int .i64 E]) ∧ IsZR w' b n M s2 ∧ Ok M s2 ∧ Touch (· = b) w w' ∧
      ∀ u W e2 W', RPutP n M s x u W e2 W' → OwnI W (g + 1) u s.rc → g + 1 ≤ W.heap.size → ∃ u2, e2 = .returned (.agg (stc n M (s2.out.length : Int) u2 s2.done Z P E)) ∧ OwnI W' (g + 1) u2 s2.rc ∧ Below W.heap.size W W' := by
  obtain ⟨ht, hp⟩ := hp
  rcases hp with ⟨h0, rfl, hz⟩ | ⟨h0, rfl, hz⟩
  · refine ⟨putS n s x, _, _, _, rfl, hz, hk.put h0, ht, fun u W e2 W' hr hu hg => ?_⟩
    obtain ⟨hb, hr⟩ := hr
    rcases hr with ⟨_, u2, hu2, rfl⟩ | ⟨h1, _⟩
    · exact ⟨u2, rfl, hu2.lower hg, hb⟩
    · exact absurd h0 h1
  · refine ⟨s, _, _, _, rfl, hz, hk, ht, fun u W e2 W' hr hu hg => ?_⟩
    obtain ⟨hb, hr⟩ := hr
    rcases hr with ⟨h1, _⟩ | ⟨_, rfl⟩
    · exact absurd h1 h0
    · exact ⟨u, rfl, hu.below hb, hb⟩
/-- What ZerosReads has behind k codes. -/
def RR (w : World) (n : Int) (M : Nat) (rb g : Nat) (s : St) (u : Value) (wr : World) : Prop :=
  IsZR wr rb n M s ∧ RdVar wr g n M s u ∧ OwnI wr (g + 1) u s.rc ∧ Ok M s ∧ Below w.heap.size w wr
set_option maxRecDepth 100000 in
set_option maxHeartbeats 4000000 in
theorem zerosReads.walk (l : Option Addr) (llen lcap : Nat) (lz : List Int) (n most : Int) (w : World) (hl : IsRow .i64 w l llen lcap lz) (_ : (Lit.int .i64 n).wf = true) (_ : (Lit.int .i64 most).wf = true) :
    Calls Try.prog 5 #[.slice l llen lcap, .int .i64 n, .int .i64 most] w fun e w' => e = .returned (.bool true) ∧ Below w.heap.size w w' := by
  obtain ⟨hI, hlen⟩ := ints_in hl
  have HI := Lib.hid hI
  clear hl hI
  generalize lz.take llen = zs at *
  by_cases h1 : llen ≤ 100
  · have h1i : (llen : Int) ≤ 100 := by omega
    by_cases hok : DecOk n most
    · obtain ⟨M, rfl⟩ : ∃ M : Nat, most = (M : Int) := ⟨most.toNat, by have := hok.2.2.1; omega⟩
      have HNEW := Lib.hid (znew_ok n M w hok)
      have hn1 := hok.1
      have hn2 := hok.2.1
      have hM1 : (M : Int) ≤ 1099511627776 := hok.2.2.2
      have hM : M ≤ 1099511627776 := by omega
      have a1 : ¬ n < 1 := by omega
      have a2 : ¬ 256 < n := by omega
      have a3 : ¬ (M : Int) < 0 := by omega
      have a4 : ¬ 1099511627776 < (M : Int) := by omega
      clear hok
      subst hlen
      go_enter Try.func5, Try.ntmps5
      go_wp2_with fail
      refine HNEW.out.mono ?_
      rintro e w1 ⟨rfl, hZ, hB⟩
      have hs1 := hZ.lt
      have HRR : Hid (RR w n M w.heap.size w1.heap.size ini (.slice none 0 0) (w1.alloc (.cells #[.int .i64 n, .int .i64 (M : Int), .int .i64 0, .slice none 0 0, .bool false] 39))) := Lib.hid
        ⟨hZ.below ((Below.refl _ _).alloc (Nat.le_refl _) _), heap_alloc_new _ _, OwnI.nil _ _, Ok.ini M, hB.alloc hB.size _⟩
      clear hZ hB HNEW
      generalize hrb : w.heap.size = rb at *
      generalize hg : w1.heap.size = g at *
      go_wp2_with fail
      generalize w1.alloc (.cells #[.int .i64 n, .int .i64 (M : Int), .int .i64 0, .slice none 0 0, .bool false] 39) = w2 at *
      go_loopw [54] (fun i wr => ∃ (k : Nat) (s : St) (u : Value), k ≤ zs.length ∧ i = .int .i64 k ∧ RR w n M rb g s u wr) (fun i _ => zs.length - (intOf i).toNat)
      case atStart => exact ⟨0, ini, _, by omega, rfl, HRR.out⟩
      case round =>
        clear HRR
        obtain ⟨k, s, u, hk, rfl, hZ, hR, hU, hK, hB⟩ := hrel
        have HZ := Lib.hid hZ
        have HR := Lib.hid hR
        have HU := Lib.hid hU
        have HK := Lib.hid hK
        have HB := Lib.hid hB
        obtain ⟨d0, d1, d2, d3, d4⟩ := hR.cells
        obtain ⟨au, Nu, cu, hus⟩ : ∃ au Nu cu, u = .slice au Nu cu := by
          obtain ⟨au, cu, h⟩ := HU.out.slice
          exact ⟨au, _, cu, h⟩
        subst hus
        clear hZ hR hU hK hB
        by_cases hlk : k < zs.length
        · have hki : (k : Int) < (zs.length : Int) := by omega
          have HV2 := Lib.hid (HI.out.below HB.out)
          obtain ⟨b1, o1, k1, he1, c1⟩ := HV2.out.cell hlk
          simp only [Value.slice.injEq] at he1
          obtain ⟨rfl, _, rfl⟩ := he1
          obtain ⟨x, hx⟩ : ∃ x, zs.getD k 0 = x := ⟨_, rfl⟩
          rw [hx] at c1
          clear hx
          have HPUT := Lib.hid (zput_any rb n M s x wr HZ.out hn1 hn2 HK.out hM)
          have HPUR := Lib.hid (fun W (hu : OwnI W 0 (.slice au Nu cu) s.rc) => rput_any n M s x (.slice au Nu cu) W hu hn1 hn2 HK.out hM)
          go_wp2_with fail
          refine HPUT.out.mono ?_
          rintro e w3 hp
          obtain ⟨s2, Z, P, E, rfl, hz3, hk3, ht3, hlink⟩ := put_link (g := g) hp HK.out
          have hgr : ¬ g = rb := by omega
          have hR3 : RdVar w3 g n M s (.slice au Nu cu) := (ht3.block g HR.out.lt hgr).trans HR.out
          have HU3 := Lib.hid (HU.out.same (fun j hj => ht3.block j (HU.out.lt j hj).2 (fun e => by have h5 := (HU.out.lt j hj).1; have e' : j = rb := e; omega)))
          have HB3 := Lib.hid (HB.out.trans (ht3.below HB.out.size (fun i hi => by have hi' : i = rb := hi; omega)))
          have hs3 := hR3.lt
          have HR3 := Lib.hid hR3
          have HZ3 := Lib.hid hz3
          have HK3 := Lib.hid hk3
          have HLK := Lib.hid hlink
          obtain ⟨d0, d1, d2, d3, d4⟩ := hR3.cells
          clear hp hz3 hk3 ht3 hlink hR3 HR HU HZ HK HB HPUT
          go_wp2_with fail
          refine (HPUR.out w3 HU3.out.weak).mono ?_
          rintro e w4 hp
          obtain ⟨u2, rfl, hu4, hb4⟩ := HLK.out _ _ _ _ hp HU3.out hs3
          obtain ⟨au2, Nu2, cu2, rfl⟩ : ∃ a N c, u2 = .slice a N c := by
            obtain ⟨au, cu, h⟩ := hu4.slice
            exact ⟨au, _, cu, h⟩
          have hs4 := hb4.size
          have hb5 : Below w3.heap.size w3 (w4.alloc (.cells (stc n M (s2.out.length : Int) (.slice au2 Nu2 cu2) s2.done Z P E) 43)) := hb4.alloc hs4 _
          have HU5 := Lib.hid (hu4.alloc (.cells (stc n M (s2.out.length : Int) (.slice au2 Nu2 cu2) s2.done Z P E) 43))
          have HR5 := Lib.hid (HR3.out.below hb5)
          have HZ5 := Lib.hid (HZ3.out.below hb5)
          have HB5 := Lib.hid (HB3.out.trans (hb5.mono HB3.out.size))
          have hS5 : StVar (w4.alloc (.cells (stc n M (s2.out.length : Int) (.slice au2 Nu2 cu2) s2.done Z P E) 43)) w4.heap.size n M (s2.out.length : Int) (.slice au2 Nu2 cu2) s2.done Z P E := heap_alloc_new _ _
          have hS5g : g + 1 ≤ w4.heap.size := by omega
          clear hp hu4 hb4 hb5 HPUR HLK HU3 HB3 HR3 HZ3 d0 d1 d2 d3 d4
          generalize hS : w4.heap.size = S at *
          have hL := HK3.out.len hM
          have hcl := HK3.out.le
          have hcv : cnt s2 = s2.out.length + val s2.rc := rfl
          have HCO := Lib.hid (fun W (hu : OwnI W (g + 1) (.slice au2 Nu2 cu2) s2.rc) => rcount_any n M s2 (.slice au2 Nu2 cu2) (cnt s2) W hu.weak HK3.out.bin (by omega) (by omega) (by omega) rfl)
          have HS5 := Lib.hid hS5
          clear hS5 hcv
          unfold stc
          go_upto_region 12 with fail
          have e1 : w4.alloc (.cells #[.int .i64 n, .int .i64 (M : Int), .int .i64 (s2.out.length : Int), .slice au2 Nu2 cu2, .bool s2.done, .int .i64 Z, .int .i64 P, .int .i64 E] 43) = w4.alloc (.cells (stc n M (s2.out.length : Int) (.slice au2 Nu2 cu2) s2.done Z P E) 43) := rfl
          rw [e1]
          clear e1
          generalize w4.alloc (.cells (stc n M (s2.out.length : Int) (.slice au2 Nu2 cu2) s2.done Z P E) 43) = W5 at *
          obtain ⟨d0, d1, d2, d3, d4, d5, d6, d7⟩ := HS5.out.cells
          have hlt5 := HS5.out.lt
          have q0 : ∀ sb : Beneath W5.heap.size W5, sb.val.cell? ⟨S, 0, none⟩ = some (.int .i64 n) := fun sb => Beneath.cell d0 hlt5 sb
          have q1 : ∀ sb : Beneath W5.heap.size W5, sb.val.cell? ⟨S, 1, none⟩ = some (.int .i64 (M : Int)) := fun sb => Beneath.cell d1 hlt5 sb
          have q2 : ∀ sb : Beneath W5.heap.size W5, sb.val.cell? ⟨S, 2, none⟩ = some (.int .i64 (s2.out.length : Int)) := fun sb => Beneath.cell d2 hlt5 sb
          have q3 : ∀ sb : Beneath W5.heap.size W5, sb.val.cell? ⟨S, 3, none⟩ = some (.slice au2 Nu2 cu2) := fun sb => Beneath.cell d3 hlt5 sb
          have q4 : ∀ sb : Beneath W5.heap.size W5, sb.val.cell? ⟨S, 4, none⟩ = some (.bool s2.done) := fun sb => Beneath.cell d4 hlt5 sb
          have q5 : ∀ sb : Beneath W5.heap.size W5, sb.val.cell? ⟨S, 5, none⟩ = some (.int .i64 Z) := fun sb => Beneath.cell d5 hlt5 sb
          have q6 : ∀ sb : Beneath W5.heap.size W5, sb.val.cell? ⟨S, 6, none⟩ = some (.int .i64 P) := fun sb => Beneath.cell d6 hlt5 sb
          have q7 : ∀ sb : Beneath W5.heap.size W5, sb.val.cell? ⟨S, 7, none⟩ = some (.int .i64 E) := fun sb => Beneath.cell d7 hlt5 sb
          have HUB : Hid (∀ sb : Beneath W5.heap.size W5, OwnI sb.val (g + 1) (.slice au2 Nu2 cu2) s2.rc) := Lib.hid (fun sb => HU5.out.below sb.is)
          have HZB : Hid (∀ sb : Beneath W5.heap.size W5, IsZR sb.val rb n M s2) := Lib.hid (fun sb => HZ5.out.below sb.is)
          have z1 : (E != E) = false := by simp
          have z2 : (Z != Z) = false := by simp
          have z3 : (P != P) = false := by simp
          have z4 : (s2.done != s2.done) = false := by simp
          have z5 : ((cnt s2 : Int) != (cnt s2 : Int)) = false := by simp
          refine wp_region_beneath W5.heap.size W5 (Below.refl _ _) (by kernel_rfl) (by kernel_rfl) ?_
          repeat (go_big_quiet_step (first
            | (go_at_call 26; rename_i sb; exact Calls.beneath_same sb (zdone_any rb n M s2 _ (HZB.out sb)))
            | (go_at_call 27; rename_i sb; exact Calls.beneath_same sb (zcount_any rb n M s2 _ (HZB.out sb)))
            | (go_at_call 28; rename_i sb; exact Calls.beneath sb (Nat.le_refl _) (HCO.out _ (HUB.out sb)))))
          refine wpQuiet_nil ?_
          rintro _ ⟨sb, rfl⟩
          have HS6 := Lib.hid (HS5.out.below sb.is)
          have HR6 := Lib.hid (HR5.out.below sb.is)
          have HU6 := Lib.hid (HUB.out sb)
          have HZ6 := Lib.hid (HZB.out sb)
          have HB6 := Lib.hid (HB5.out.trans (sb.is.mono HB5.out.size))
          clear d0 d1 d2 d3 d4 d5 d6 d7 q0 q1 q2 q3 q4 q5 q6 q7 HUB HZB HS5 HR5 HU5 HZ5 HB5 HCO z1 z2 z3 z4 z5
          generalize sb.val = W6 at *
          obtain ⟨d0, d1, d2, d3, d4, d5, d6, d7⟩ := HS6.out.cells
          have HF : Hid (RR w n M rb g s2 (.slice au2 Nu2 cu2) (W6.setRow g (rdc n M (s2.out.length : Int) (.slice au2 Nu2 cu2) s2.done))) := Lib.hid
            ⟨(setRow_other W6 g rb _ (by omega)).trans HZ6.out, setRow_heap W6 _ _ _ _ (0, 0) HR6.out, HU6.out.setRow _ _ (by omega), HK3.out, below_setRow HB6.out (by omega) _⟩
          go_wp2_with (refine wpList_store_row rfl 39 _ _ rfl g (rdc n M (s2.out.length : Int) (.slice au2 Nu2 cu2) s2.done) rfl rfl 39 _ HR6.out info_rd rfl (rdc_all ..) ?_)
          go_roundw
          case rel => exact ⟨k + 1, s2, _, by omega, by go_num, HF.out⟩
          case measure => simp [intOf]; omega
        · obtain rfl : k = zs.length := by omega
          have hL := HK.out.len hM
          have hcl := HK.out.le
          have hcv : cnt s = s.out.length + val s.rc := rfl
          have hG := HR.out.lt
          have HCO := Lib.hid (fun W (hu : OwnI W (g + 1) (.slice au Nu cu) s.rc) => rcount_any n M s (.slice au Nu cu) (cnt s) W hu.weak HK.out.bin (by omega) (by omega) (by omega) rfl)
          have HUB : Hid (∀ sb : Beneath wr.heap.size wr, OwnI sb.val (g + 1) (.slice au Nu cu) s.rc) := Lib.hid (fun sb => HU.out.below sb.is)
          have HZB : Hid (∀ sb : Beneath wr.heap.size wr, IsZR sb.val rb n M s) := Lib.hid (fun sb => HZ.out.below sb.is)
          have q0 : ∀ sb : Beneath wr.heap.size wr, sb.val.cell? ⟨g, 0, none⟩ = some (.int .i64 n) := fun sb => Beneath.cell d0 hG sb
          have q1 : ∀ sb : Beneath wr.heap.size wr, sb.val.cell? ⟨g, 1, none⟩ = some (.int .i64 (M : Int)) := fun sb => Beneath.cell d1 hG sb
          have q2 : ∀ sb : Beneath wr.heap.size wr, sb.val.cell? ⟨g, 2, none⟩ = some (.int .i64 (s.out.length : Int)) := fun sb => Beneath.cell d2 hG sb
          have q3 : ∀ sb : Beneath wr.heap.size wr, sb.val.cell? ⟨g, 3, none⟩ = some (.slice au Nu cu) := fun sb => Beneath.cell d3 hG sb
          have q4 : ∀ sb : Beneath wr.heap.size wr, sb.val.cell? ⟨g, 4, none⟩ = some (.bool s.done) := fun sb => Beneath.cell d4 hG sb
          have HFO := Lib.hid (fun W => four_any W)
          clear hcv
          go_upto_region 16 with fail
          refine wp_region_beneath wr.heap.size wr (Below.refl _ _) (by kernel_rfl) (by kernel_rfl) ?_
          repeat (go_big_quiet_step (first
            | (go_at_call 17; rename_i sb; exact Calls.beneath sb (Nat.le_refl _) (HFO.out _))
            | (go_at_call 27; rename_i sb; exact Calls.beneath_same sb (zcount_any rb n M s _ (HZB.out sb)))
            | (go_at_call 28; rename_i sb; exact Calls.beneath sb (Nat.le_refl _) (HCO.out _ (HUB.out sb)))))
          refine wpQuiet_nil ?_
          rintro _ ⟨sb, rfl⟩
          have HB6 := Lib.hid (HB.out.trans (sb.is.mono HB.out.size))
          go_wp2_with fail
          go_ret
          exact ⟨rfl, hrb ▸ HB6.out⟩
    · have HNEW := Lib.hid (znew_bad n most w hok)
      have HFO := Lib.hid (fun W => four_any W)
      by_cases a1 : n < 1
      · clear hok
        go_enter Try.func5, Try.ntmps5
        go_wp2_with fail
        refine HNEW.out.mono ?_
        rintro e w1 ⟨rfl, rfl⟩
        go_wp2_with fail
        refine (HFO.out _).mono ?_
        rintro e w4 ⟨rfl, hb⟩
        have HB4 := Lib.hid hb
        clear hb
        go_wp2_with fail
        go_ret
        exact ⟨rfl, HB4.out⟩
      · by_cases a2 : 256 < n
        · clear hok
          go_enter Try.func5, Try.ntmps5
          go_wp2_with fail
          refine HNEW.out.mono ?_
          rintro e w1 ⟨rfl, rfl⟩
          go_wp2_with fail
          refine (HFO.out _).mono ?_
          rintro e w4 ⟨rfl, hb⟩
          have HB4 := Lib.hid hb
          clear hb
          go_wp2_with fail
          go_ret
          exact ⟨rfl, HB4.out⟩
        · by_cases a3 : most < 0
          · clear hok
            go_enter Try.func5, Try.ntmps5
            go_wp2_with fail
            refine HNEW.out.mono ?_
            rintro e w1 ⟨rfl, rfl⟩
            go_wp2_with fail
            refine (HFO.out _).mono ?_
            rintro e w4 ⟨rfl, hb⟩
            have HB4 := Lib.hid hb
            clear hb
            go_wp2_with fail
            go_ret
            exact ⟨rfl, HB4.out⟩
          · have a4 : 1099511627776 < most := by
              have : ¬ most ≤ 1099511627776 := fun h => hok ⟨by omega, by omega, by omega, h⟩
              omega
            clear hok
            go_enter Try.func5, Try.ntmps5
            go_wp2_with fail
            refine HNEW.out.mono ?_
            rintro e w1 ⟨rfl, rfl⟩
            go_wp2_with fail
            refine (HFO.out _).mono ?_
            rintro e w4 ⟨rfl, hb⟩
            have HB4 := Lib.hid hb
            clear hb
            go_wp2_with fail
            go_ret
            exact ⟨rfl, HB4.out⟩
  · have h1i : (100 : Int) < (llen : Int) := by omega
    go_enter Try.func5, Try.ntmps5
    go_wp2_with fail
    refine (four_any _).mono ?_
    rintro e w4 ⟨rfl, hb⟩
    have HB4 := Lib.hid hb
    clear hb
    go_wp2_with fail
    go_ret
    exact ⟨rfl, HB4.out⟩
end Go.Proofs.Ythfdmmlamomlkaa

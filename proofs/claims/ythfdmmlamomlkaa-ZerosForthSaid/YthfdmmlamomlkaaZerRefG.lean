/-
  THE WALKS OF THE DOCUMENT's ANSWERS OF LAYER 7 (balerref07): Decode.
-/
import Derived.Test.YthfdmmlamomlkaaZerRefF
import Derived.Deep.Cut
namespace Go.Proofs.Ythfdmmlamomlkaa
open Go.RowKit ZerM
set_option linter.unusedVariables false
/-- Block b is a variable that holds a reader by value. -/
def RdVar (w : World) (b : Nat) (n : Int) (most : Nat) (s : St) (u : Value) : Prop := w.heap[b]? = some (.cells (rdc n most (s.out.length : Int) u s.done) 39 (0, 0))
theorem rdc_all (n : Int) (most : Nat) (told : Int) (a : Option Addr) (N cap : Nat) (d : Bool) : (rdc n most told (.slice a N cap) d).all (·.oneCell') = true := by kernel_rfl
theorem RdVar.lt {w : World} {b : Nat} {n : Int} {most : Nat} {s : St} {u : Value} (h : RdVar w b n most s u) : b < w.heap.size := (Array.getElem?_eq_some_iff.1 h).1
theorem RdVar.below {w w' : World} {b : Nat} {n : Int} {most : Nat} {s : St} {u : Value} (h : RdVar w b n most s u) (hb : Below w.heap.size w w') : RdVar w' b n most s u := (hb.block b h.lt).trans h
/-- Block b is a variable that holds a step by value. -/
def StVar (w : World) (b : Nat) (n : Int) (most : Nat) (told : Int) (u : Value) (d : Bool) (z p e : Int) : Prop := w.heap[b]? = some (.cells (stc n most told u d z p e) 43 (0, 0))
theorem StVar.lt {w : World} {b : Nat} {n : Int} {most : Nat} {told : Int} {u : Value} {d : Bool} {z p e : Int} (h : StVar w b n most told u d z p e) : b < w.heap.size := (Array.getElem?_eq_some_iff.1 h).1
theorem StVar.below {w w' : World} {b : Nat} {n : Int} {most : Nat} {told : Int} {u : Value} {d : Bool} {z p e : Int} (h : StVar w b n most told u d z p e) (hb : Below w.heap.size w w') : StVar w' b n most told u d z p e := (hb.block b h.lt).trans h
theorem StVar.cells {w : World} {b : Nat} {n : Int} {most : Nat} {told : Int} {u : Value} {d : Bool} {z p e : Int} (h : StVar w b n most told u d z p e) :
    w.cell? ⟨b, 0, none⟩ = some (.int .i64 n) ∧ w.cell? ⟨b, 1, none⟩ = some (.int .i64 (most : Int)) ∧ w.cell? ⟨b, 2, none⟩ = some (.int .i64 told) ∧ w.cell? ⟨b, 3, none⟩ = some u ∧ w.cell? ⟨b, 4, none⟩ = some (.bool d) ∧
    w.cell? ⟨b, 5, none⟩ = some (.int .i64 z) ∧ w.cell? ⟨b, 6, none⟩ = some (.int .i64 p) ∧ w.cell? ⟨b, 7, none⟩ = some (.int .i64 e) := by
  refine ⟨?_, ?_, ?_, ?_, ?_, ?_, ?_, ?_⟩ <;> (rw [cell_of_row _ _ _ _ _ _ h]; rfl)
theorem RdVar.cells {w : World} {b : Nat} {n : Int} {most : Nat} {s : St} {u : Value} (h : RdVar w b n most s u) :
    w.cell? ⟨b, 0, none⟩ = some (.int .i64 n) ∧ w.cell? ⟨b, 1, none⟩ = some (.int .i64 (most : Int)) ∧ w.cell? ⟨b, 2, none⟩ = some (.int .i64 (s.out.length : Int)) ∧ w.cell? ⟨b, 3, none⟩ = some u ∧ w.cell? ⟨b, 4, none⟩ = some (.bool s.done) := by
  refine ⟨?_, ?_, ?_, ?_, ?_⟩ <;> (rw [cell_of_row _ _ _ _ _ _ h]; rfl)
/-- What Decode has behind k codes. -/
def RD (w : World) (n : Int) (M : Nat) (zs : List Int) (k : Nat) (s : St) (u v : Value) (wr : World) : Prop :=
  RdVar wr w.heap.size n M s u ∧ OwnI wr (w.heap.size + 1) u s.rc ∧ OwnI wr (w.heap.size + 1) v s.out ∧ (∀ k, u.ownBlock = some k → v.ownBlock ≠ some k) ∧ Ok M s ∧ dec n M ini zs = dec n M s (zs.drop k) ∧ Below w.heap.size w wr
/-- What it has within the places of one code. -/
def RE (w : World) (n : Int) (M : Nat) (s s2 : St) (u u2 : Value) (S : Nat) (z p : Int) (l : List Int) (v : Value) (wr : World) : Prop :=
  RdVar wr w.heap.size n M s u ∧ OwnI wr (w.heap.size + 1) u2 s2.rc ∧ OwnI wr (w.heap.size + 1) v l ∧ StVar wr S n M (s2.out.length : Int) u2 s2.done z p 0 ∧ w.heap.size + 1 ≤ S ∧ v.ownBlock ≠ some S ∧ u2.ownBlock ≠ some S ∧ (∀ k, u2.ownBlock = some k → v.ownBlock ≠ some k) ∧ Below w.heap.size w wr
theorem RE.push {w : World} {n : Int} {M : Nat} {s s2 : St} {u u2 : Value} {S : Nat} {z p : Int} {l : List Int} {v v' : Value} {wr w' : World} {x : Int} (h : RE w n M s s2 u u2 S z p l v wr)
    (h1 : OwnI w' (w.heap.size + 1) v' (l ++ [x])) (h2 : Below (w.heap.size + 1) wr w') (h3 : ∀ k, k < wr.heap.size → v.ownBlock ≠ some k → w'.heap[k]? = wr.heap[k]?) (h4 : ∀ k, v'.ownBlock = some k → v.ownBlock = some k ∨ wr.heap.size ≤ k) :
    RE w n M s s2 u u2 S z p (l ++ [x]) v' w' := by
  obtain ⟨a1, a2, a3, a4, a5, a6, a7, a8, a9⟩ := h
  refine ⟨(h2.block _ (by omega)).trans a1, a2.same (fun k hk => h3 k (a2.lt k hk).2 (a8 k hk)), h1, (h3 S a4.lt a6).trans a4, a5, ?_, a7, ?_, a9.trans (h2.mono (by omega))⟩
  · intro e
    rcases h4 S e with h | h
    · exact a6 h
    · have := a4.lt; omega
  · intro k hk e
    rcases h4 k e with h | h
    · exact a8 k hk h
    · have := (a2.lt k hk).2; omega
theorem RE.fin {w : World} {n : Int} {M : Nat} {s s2 : St} {u u2 : Value} {S : Nat} {z p : Int} {l : List Int} {v : Value} {wr : World} {zs : List Int} {k : Nat} (h : RE w n M s s2 u u2 S z p l v wr) (hl : s2.out = l) (hk : Ok M s2)
    (hd : dec n M ini zs = dec n M s2 (zs.drop k)) : RD w n M zs k s2 u2 v (wr.setRow w.heap.size (rdc n M (s2.out.length : Int) u2 s2.done)) := by
  obtain ⟨a1, a2, a3, a4, a5, a6, a7, a8, a9⟩ := h
  subst hl
  exact ⟨setRow_heap wr _ _ _ _ (0, 0) a1, a2.setRow _ _ (by omega), a3.setRow _ _ (by omega), a8, hk, hd, below_setRow a9 (Nat.le_refl _) _⟩
set_option maxRecDepth 100000 in
set_option maxHeartbeats 4000000 in
theorem rDecode_any (v0 : Value) (zs : List Int) (n most : Int) (w : World) (hv : IsInts w v0 zs) (hz : zs.length ≤ 1000000) (hms : DecOk n most → most ≤ 1000000) :
    Calls Try.prog 30 #[v0, .int .i64 n, .int .i64 most] w fun e w' => ∃ (u : Value) (ys : List Int) (err : Nat), e = .returned (.tuple #[u, .int .i64 (err : Int)]) ∧ IsInts w' u ys ∧ Below w.heap.size w w' ∧ DecP zs n most ys err := by
  have HV := Lib.hid hv
  obtain ⟨a, cap, rfl, _⟩ := hv
  by_cases hn1 : n < 1
  · go_enter Try.func30, Try.ntmps30
    go_wp2_with fail
    go_ret2
    exact ⟨_, [], 1, rfl, IsInts.nil _, Below.refl _ _, Or.inl ⟨fun h => by have := h.1; omega, rfl, rfl⟩⟩
  by_cases hn2 : 256 < n
  · go_enter Try.func30, Try.ntmps30
    go_wp2_with fail
    go_ret2
    exact ⟨_, [], 1, rfl, IsInts.nil _, Below.refl _ _, Or.inl ⟨fun h => by have := h.2.1; omega, rfl, rfl⟩⟩
  by_cases hm1 : most < 0
  · go_enter Try.func30, Try.ntmps30
    go_wp2_with fail
    go_ret2
    exact ⟨_, [], 1, rfl, IsInts.nil _, Below.refl _ _, Or.inl ⟨fun h => by have := h.2.2.1; omega, rfl, rfl⟩⟩
  by_cases hm2 : 1099511627776 < most
  · go_enter Try.func30, Try.ntmps30
    go_wp2_with fail
    go_ret2
    exact ⟨_, [], 1, rfl, IsInts.nil _, Below.refl _ _, Or.inl ⟨fun h => by have := h.2.2.2; omega, rfl, rfl⟩⟩
  have hok : DecOk n most := ⟨by omega, by omega, by omega, by omega⟩
  have hmo := hms hok
  obtain ⟨M, rfl⟩ : ∃ M : Nat, most = (M : Int) := ⟨most.toNat, by omega⟩
  have HOK := Lib.hid hok
  have h1n : 1 ≤ n := by omega
  have hn256 : n ≤ 256 := by omega
  have HPUT := Lib.hid (fun s c u w (hu : OwnI w 0 u s.rc) (ho : Ok M s) => rput_any n M s c u w hu h1n hn256 ho (by omega))
  have HB0 := Lib.hid ((Below.refl w.heap.size w).alloc (Nat.le_refl _) (.cells #[.int .i64 n, .int .i64 (M : Int), .int .i64 0, .slice none 0 0, .bool false] 39))
  have HR0 := Lib.hid (heap_alloc_new w (.cells #[.int .i64 n, .int .i64 (M : Int), .int .i64 0, .slice none 0 0, .bool false] 39))
  clear hok hms
  go_enter Try.func30, Try.ntmps30
  go_wp2_with fail
  generalize w.alloc (.cells #[.int .i64 n, .int .i64 (M : Int), .int .i64 0, .slice none 0 0, .bool false] 39) = w1 at *
  go_loopw [9, 32] (fun o i wr => ∃ (k : Nat) (s : St) (u v : Value), k ≤ zs.length ∧ i = .int .i64 k ∧ v = o ∧ RD w n M zs k s u v wr) (fun _ i _ => zs.length - (intOf i).toNat)
  case atStart => exact ⟨0, ini, .slice none 0 0, .slice none 0 0, by omega, rfl, rfl, HR0.out, OwnI.nil _ _, OwnI.nil _ _, fun k h => by simp [Value.ownBlock] at h, Ok.ini M, rfl, HB0.out⟩
  case round =>
    clear HB0 HR0
    obtain ⟨k, s, u, v, hk, rfl, rfl, hR, hU, hO, hA, hK, hD, hB⟩ := hrel
    have HR := Lib.hid hR
    have HU := Lib.hid hU
    have HO := Lib.hid hO
    have HA := Lib.hid hA
    have HK := Lib.hid hK
    have HD := Lib.hid hD
    have HB := Lib.hid hB
    have hcl := hK.le
    have hcv : cnt s = s.out.length + val s.rc := rfl
    obtain ⟨d0, d1, d2, d3, d4⟩ := hR.cells
    have hG := hR.lt
    clear hR hU hO hA hK hD hB
    by_cases hlk : k < zs.length
    · have hki : (k : Int) < (zs.length : Int) := by omega
      have HV2 := Lib.hid (HV.out.below HB.out)
      obtain ⟨b1, o1, k1, he1, c1⟩ := HV2.out.cell hlk
      simp only [Value.slice.injEq] at he1
      obtain ⟨rfl, _, rfl⟩ := he1
      obtain ⟨x, hx⟩ : ∃ x, zs.getD k 0 = x := ⟨_, rfl⟩
      have HDR : Hid (zs.drop k = x :: zs.drop (k + 1)) := Lib.hid (by rw [← hx]; exact drop_cons zs k hlk)
      rw [hx] at c1
      rw [HDR.out] at HD
      clear hx
      obtain ⟨au, Nu, cu, hus⟩ : ∃ au Nu cu, u = .slice au Nu cu := by
        obtain ⟨au, cu, h⟩ := HU.out.slice
        exact ⟨au, _, cu, h⟩
      subst hus
      go_wp2_with fail
      refine (HPUT.out s x (.slice au Nu cu) wr HU.out.weak HK.out).mono ?_
      rintro e w2 ⟨hb2, hp⟩
      have HB2 := Lib.hid (HB.out.trans (hb2.mono HB.out.size))
      rcases hp with ⟨hput, u2, hu2, rfl⟩ | ⟨hput, rfl⟩
      · have HD2 : Hid (dec n M ini zs = dec n M (putS n s x) (zs.drop (k + 1))) := Lib.hid (by rw [HD.out, dec_go hput])
        have HK2 := Lib.hid (HK.out.put hput)
        obtain ⟨_, hx0, hx1⟩ := putE_of hput
        have hs2 := hb2.size
        obtain ⟨au2, Nu2, cu2, rfl⟩ : ∃ a N c, u2 = .slice a N c := by
          obtain ⟨au, cu, h⟩ := hu2.slice
          exact ⟨au, _, cu, h⟩
        have HRE : Hid (RE w n M s (putS n s x) (.slice au Nu cu) (.slice au2 Nu2 cu2) w2.heap.size (putZ s x : Int) (putP n x) s.out v (w2.alloc (.cells (stc n M ((putS n s x).out.length : Int) (.slice au2 Nu2 cu2) (putS n s x).done (putZ s x : Int) (putP n x) 0) 43))) := Lib.hid ⟨
          (HR.out.below hb2).below ((Below.refl _ _).alloc (Nat.le_refl _) _), (hu2.lower (by omega)).alloc _, (HO.out.below hb2).alloc _, heap_alloc_new _ _, by omega,
          fun e => by have := (HO.out.lt _ e).2; omega, fun e => by have := (hu2.lt _ e).2; omega, fun j hj e => by have h1 := (hu2.lt _ hj).1; have h2 := (HO.out.lt _ e).2; omega, HB2.out.alloc HB2.out.size _⟩
        have hout : (putS n s x).out = s.out ++ List.replicate (putZ s x) 0 ++ (if 0 ≤ putP n x then [putP n x] else []) := by
          by_cases h2 : x < 2
          · have hZ : putZ s x = 0 := by unfold putZ; rw [if_pos h2]
            have hP : putP n x = -1 := by unfold putP; rw [if_pos (Or.inl h2)]
            rw [hZ, hP, putS_part h2]; simp
          · have hZ : putZ s x = val s.rc := by unfold putZ; rw [if_neg h2]
            by_cases h3 : x = n + 1
            · have hP : putP n x = -1 := by unfold putP; rw [if_pos (Or.inr h3)]
              rw [hZ, hP, putS_end h2 h3]; simp
            · have hP : putP n x = x - 1 := by unfold putP; rw [if_neg (by omega)]
              rw [hZ, hP, putS_one h2 h3, if_pos (by omega)]
        have hpr : -1 ≤ putP n x := by unfold putP; split <;> omega
        have HOUT := Lib.hid hout
        have hzl : putZ s x ≤ 1000000 := by
          unfold putZ
          split <;> omega
        have hsl : s.out.length ≤ 1000000 := by omega
        clear hu2 hb2 hout HB2 HPUT d0 d1 d2 d3 d4 hput
        generalize putS n s x = s2 at *
        generalize putZ s x = Z at *
        generalize putP n x = p at *
        unfold stc
        go_wp2_with fail
        go_loopw [9, 49] (fun o i wr => ∃ (j : Nat) (v : Value), j ≤ Z ∧ i = .int .i64 j ∧ v = o ∧ RE w n M s s2 (.slice au Nu cu) (.slice au2 Nu2 cu2) w2.heap.size (Z : Int) p (s.out ++ List.replicate j 0) v wr) (fun _ i _ => Z - (intOf i).toNat)
        case atStart => exact ⟨0, v, by omega, rfl, rfl, by rw [List.replicate_zero, List.append_nil]; exact HRE.out⟩
        case round =>
          clear HRE
          obtain ⟨j, v, hj, rfl, rfl, hE⟩ := hrel
          have hbw := hE.2.2.2.2.2.2.2.2.size
          have hlt := hE.2.2.2.1.lt
          have hS := hE.2.2.2.2.1
          have HE := Lib.hid hE
          clear hE
          by_cases hjz : j < Z
          · have hjI : (j : Int) < (Z : Int) := by omega
            have hln : (s.out ++ List.replicate j 0).length + 1 ≤ 17592186044416 := by simp; omega
            go_wp2_with (at_builtin; go_loud (refine push_int2 wr rfl _ _ rfl (w.heap.size + 1) _ (s.out ++ List.replicate j 0) 0 HE.out.2.2.1 rfl rfl hln (by omega) ?_))
            intro v3 w3 hO3 hB3 hK3 hV3
            have HE3 : Hid (RE w n M s s2 (.slice au Nu cu) (.slice au2 Nu2 cu2) w2.heap.size (Z : Int) p (s.out ++ List.replicate (j + 1) 0) v3 w3) := Lib.hid (by
              rw [List.replicate_succ', ← List.append_assoc]
              exact HE.out.push (by simpa only [List.append_assoc] using hO3) hB3 hK3 hV3)
            clear hO3 hB3 hK3 hV3
            go_wp2_with fail
            go_roundw
            case rel => exact ⟨j + 1, v3, by omega, by go_num, rfl, HE3.out⟩
            case measure => simp [intOf]; omega
          · obtain rfl : j = Z := by omega
            obtain ⟨d0, d1, d2, d3, d4, d5, d6, d7⟩ := HE.out.2.2.2.1.cells
            by_cases hp : 0 ≤ p
            · have hln : (s.out ++ List.replicate j 0).length + 1 ≤ 17592186044416 := by simp; omega
              go_upto_region 19 with (at_builtin; go_loud (refine push_int2 wr rfl _ _ rfl (w.heap.size + 1) _ (s.out ++ List.replicate j 0) p HE.out.2.2.1 rfl rfl hln (by omega) ?_))
              intro v3 w3 hO3 hB3 hK3 hV3
              have HE3 := Lib.hid (HE.out.push (by simpa only [List.append_assoc] using hO3) hB3 hK3 hV3)
              clear hO3 hB3 hK3 hV3 d0 d1 d2 d3 d4 d5 d6 d7
              obtain ⟨d0, d1, d2, d3, d4, d5, d6, d7⟩ := HE3.out.2.2.2.1.cells
              rw [if_pos hp] at HOUT
              have HX := Lib.hid HE3.out.1
              have HF := Lib.hid (HE3.out.fin HOUT.out HK2.out HD2.out)
              go_wp2_with (refine wpList_store_row rfl 39 _ _ rfl w.heap.size (rdc n M (s2.out.length : Int) (.slice au2 Nu2 cu2) s2.done) rfl rfl 39 _ HX.out info_rd rfl (rdc_all ..) ?_)
              go_roundw
              case rel => exact ⟨k + 1, s2, _, v3, by omega, by go_num, rfl, HF.out⟩
              case measure => simp [intOf]; omega
            · have hp1 : p < 0 := by omega
              rw [if_neg hp, List.append_nil] at HOUT
              have HX := Lib.hid HE.out.1
              have HF := Lib.hid (HE.out.fin HOUT.out HK2.out HD2.out)
              go_wp2_with (refine wpList_store_row rfl 39 _ _ rfl w.heap.size (rdc n M (s2.out.length : Int) (.slice au2 Nu2 cu2) s2.done) rfl rfl 39 _ HX.out info_rd rfl (rdc_all ..) ?_)
              go_roundw
              case rel => exact ⟨k + 1, s2, _, v, by omega, by go_num, rfl, HF.out⟩
              case measure => simp [intOf]; omega
      · have HE : Hid (dec n M ini zs = ([], if putE n M s x = 7 then 25 else putE n M s x)) := Lib.hid (by rw [HD.out, dec_stop hput])
        obtain ⟨E, hE⟩ : ∃ E, putE n M s x = E := ⟨_, rfl⟩
        rw [hE] at HE hput
        rw [hE]
        clear hb2 HPUT d0 d1 d2 d3 d4 hE
        unfold stc
        by_cases h7 : E = 7
        · subst h7
          rw [if_pos rfl] at HE
          go_wp2_with fail
          go_ret2
          exact ⟨_, [], 25, rfl, IsInts.nil _, HB2.out.alloc HB2.out.size _, Or.inr ⟨HOK.out, HE.out.symm⟩⟩
        · rw [if_neg h7] at HE
          have h7b : ((E : Int) == 7) = false := by rw [beq_eq_false_iff_ne]; omega
          have h0b : ((E : Int) != 0) = true := by rw [bne_iff_ne]; omega
          clear h7 hput
          go_wp2_with fail
          go_quiet (fail)
          go_wp2_with fail
          go_ret2
          exact ⟨_, [], E, rfl, IsInts.nil _, (HB2.out.alloc HB2.out.size _).trans ⟨rfl, rfl, rfl, Nat.le_refl _, fun _ _ => rfl⟩, Or.inr ⟨HOK.out, HE.out.symm⟩⟩
    · obtain rfl : k = zs.length := by omega
      rw [List.drop_length] at HD
      by_cases hd : s.done = true
      · have HE : Hid (dec n M ini zs = (s.out, 0)) := Lib.hid (by rw [HD.out]; simp only [dec]; rw [if_pos hd])
        rw [hd] at d4
        go_wp2_with fail
        go_ret2
        exact ⟨_, s.out, 0, rfl, HO.out.ints, HB.out, Or.inr ⟨HOK.out, HE.out.symm⟩⟩
      · have HE : Hid (dec n M ini zs = ([], 24)) := Lib.hid (by rw [HD.out]; simp only [dec]; rw [if_neg hd])
        rw [show s.done = false by simpa using hd] at d4
        go_wp2_with fail
        go_ret2
        exact ⟨_, [], 24, rfl, IsInts.nil _, HB.out, Or.inr ⟨HOK.out, HE.out.symm⟩⟩
end Go.Proofs.Ythfdmmlamomlkaa

/-
  THE WALKS OF LAYER 7's CODE (package zeros): Decode.
-/
import Derived.Test.YthfdmmlamomlkaaZerE
namespace Go.Proofs.Ythfdmmlamomlkaa
open Go.RowKit ZerM
set_option linter.unusedVariables false
/-- The room of N places, of which s has told some. -/
def room (N : Nat) (s : St) : List Int := s.out ++ List.replicate (N - s.out.length) 0
theorem room_part {N : Nat} {n : Int} {s : St} {c : Int} (h : c < 2) : room N (putS n s c) = room N s := by unfold room; rw [putS_part h]
theorem room_zeros (N : Nat) (l : List Int) (v : Nat) (h : l.length + v ≤ N) : l ++ List.replicate v 0 ++ List.replicate (N - (l.length + v)) (0 : Int) = l ++ List.replicate (N - l.length) 0 := by
  rw [List.append_assoc, List.replicate_append_replicate]
  congr 2
  omega
theorem room_end {N : Nat} {n : Int} {s : St} {c : Int} (h : ¬ c < 2) (he : c = n + 1) (hN : s.out.length + val s.rc ≤ N) : room N (putS n s c) = room N s := by
  unfold room; rw [putS_end h he]
  simp only [List.length_append, List.length_replicate]
  exact room_zeros N s.out (val s.rc) hN
theorem room_one {N : Nat} {n : Int} {s : St} {c : Int} (h : ¬ c < 2) (he : c ≠ n + 1) (hN : s.out.length + val s.rc < N) : room N (putS n s c) = (room N s).set (s.out.length + val s.rc) (c - 1) := by
  unfold room; rw [putS_one h he]
  simp only [List.length_append, List.length_replicate, List.length_singleton]
  rw [← room_zeros N s.out (val s.rc) (by omega), show N - (s.out.length + val s.rc) = (N - (s.out.length + val s.rc + 1)) + 1 by omega]
  have := set_next (s.out ++ List.replicate (val s.rc) 0) (N - (s.out.length + val s.rc + 1)) (c - 1)
  rw [List.length_append, List.length_replicate] at this
  exact this.symm
theorem room_len {N : Nat} {s : St} (h : s.out.length ≤ N) : (room N s).length = N := by
  unfold room; simp; omega
set_option maxRecDepth 100000 in
set_option maxHeartbeats 2000000 in
theorem zDecode_any (v : Value) (zs : List Int) (n most : Int) (w : World) (hv : IsInts w v zs) (hz : zs.length ≤ 1000000) (hms : DecOk n most → most ≤ 1000000) :
    Calls Try.prog 29 #[v, .int .i64 n, .int .i64 most] w fun e w' => ∃ (u : Value) (ys : List Int) (err : Nat), e = .returned (.tuple #[u, .int .i64 (err : Int)]) ∧ IsInts w' u ys ∧ Below w.heap.size w w' ∧ DecP zs n most ys err := by
  have HV := Lib.hid hv
  have HL := Lib.hid (zlength_any v zs n most w hv hz)
  have HMS := Lib.hid hms
  obtain ⟨a, cap, rfl, _⟩ := hv
  clear hms
  go_enter Try.func29, Try.ntmps29
  go_wp2_with fail
  refine HL.out.mono ?_
  rintro e w1 ⟨x, err, rfl, hB, hP⟩
  have HB := Lib.hid hB
  clear hB HL
  rcases hP with ⟨h1, rfl, rfl⟩ | ⟨h1, p, h2, rfl⟩
  · have HNO := Lib.hid h1
    clear h1
    go_wp2_with fail
    go_ret2
    exact ⟨_, [], 1, rfl, IsInts.nil _, HB.out, Or.inl ⟨HNO.out, rfl, rfl⟩⟩
  · have HOK := Lib.hid h1
    have hmo := HMS.out h1
    by_cases he : err = 0
    · subst he
      obtain ⟨M, rfl⟩ : ∃ M : Nat, most = (M : Int) := ⟨most.toNat, by have := h1.2.2.1; omega⟩
      simp only [Int.toNat_natCast] at h2
      have hn1 := h1.1
      have hn2 := h1.2.1
      have hM : M ≤ 1000000 := by omega
      have hpl := dec_len n M zs ini p (Ok.ini M) h2
      have HDEC := Lib.hid h2
      obtain ⟨N, hN⟩ : ∃ N, p.length = N := ⟨_, rfl⟩
      rw [hN] at hpl
      rw [hN]
      have hNI : (N : Int) ≤ 1000000 := by omega
      have hmk := make_ints N (by omega) w1
      have hbw1 := HB.out.size
      have hrow := RowI.made w1 N
      have hgb : w.heap.size ≤ w1.heap.size := hbw1
      have hzr := zr_ini (w1.alloc (.cells (madeCells #[Value.int .i64 0] N) 3)) n M
      have hB2 : Below w.heap.size w (w1.alloc (.cells (madeCells #[Value.int .i64 0] N) 3)) := HB.out.alloc hgb _
      have hrow2 : RowI ((w1.alloc (.cells (madeCells #[Value.int .i64 0] N) 3)).alloc (.cells #[.int .i64 n, .int .i64 (M : Int), .int .i64 0, .int .i64 0, .int .i64 0, .bool false] 60)) w1.heap.size (List.replicate N 0) :=
        hrow.below ((Below.refl _ _).alloc (Nat.le_refl _) _)
      have hrbg : w1.heap.size < (w1.alloc (.cells (madeCells #[Value.int .i64 0] N) 3)).heap.size := hrow.lt
      generalize hg : w1.heap.size = g at *
      generalize hw2 : w1.alloc (.cells (madeCells #[Value.int .i64 0] N) 3) = w2 at *
      have hB3 : Below w.heap.size w (w2.alloc (.cells #[.int .i64 n, .int .i64 (M : Int), .int .i64 0, .int .i64 0, .int .i64 0, .bool false] 60)) := hB2.alloc hB2.size _
      have HB3 := Lib.hid hB3
      have HZR := Lib.hid hzr
      have HR2 := Lib.hid hrow2
      clear h1 h2 hrow hzr hB2 hB3 hrow2 hw2
      go_wp2_with fail
      generalize hrb : w2.heap.size = rb at *
      generalize w2.alloc (.cells #[.int .i64 n, .int .i64 (M : Int), .int .i64 0, .int .i64 0, .int .i64 0, .bool false] 60) = w3 at *
      clear hrb
      go_loopw [12, 38] (fun at_ i wr => ∃ (k : Nat) (s : St), k ≤ zs.length ∧ i = .int .i64 k ∧ at_ = .int .i64 (s.out.length : Int) ∧ IsZR wr rb n M s ∧ Ok M s ∧ dec n M s (zs.drop k) = (p, 0) ∧ RowI wr g (room N s) ∧ Below w.heap.size w wr) (fun _ i _ => zs.length - (intOf i).toNat)
      case atStart => exact ⟨0, ini, by omega, rfl, rfl, HZR.out, Ok.ini M, HDEC.out, HR2.out, HB3.out⟩
      case round =>
        clear HZR HR2 HB3
        obtain ⟨k, s, hk, rfl, rfl, hI, hO, hD, hR, hB⟩ := hrel
        have HI := Lib.hid hI
        have HB3 := Lib.hid hB
        have HO := Lib.hid hO
        have HD := Lib.hid hD
        have HR := Lib.hid hR
        have hco := hO.le
        have hcv : cnt s = s.out.length + val s.rc := rfl
        clear hI hB hO hD hR
        by_cases hlk : k < zs.length
        · have hki : (k : Int) < (zs.length : Int) := by omega
          have HV2 := Lib.hid (HV.out.below HB3.out)
          obtain ⟨b1, o1, k1, he1, c1⟩ := HV2.out.cell hlk
          simp only [Value.slice.injEq] at he1
          obtain ⟨rfl, _, rfl⟩ := he1
          obtain ⟨x, hx⟩ : ∃ x, zs.getD k 0 = x := ⟨_, rfl⟩
          have HDR : Hid (zs.drop k = x :: zs.drop (k + 1)) := Lib.hid (by
            rw [List.drop_eq_getElem_cons hlk, ← hx, List.getD_eq_getElem?_getD, List.getElem?_eq_getElem hlk]
            rfl)
          rw [hx] at c1
          clear hx
          rw [HDR.out] at HD
          have hput : putE n M s x = 0 := by
            by_cases h0 : putE n M s x = 0
            · exact h0
            · exfalso
              have := HD.out
              rw [dec_stop h0] at this
              have := congrArg Prod.snd this
              simp only at this
              split at this
              · cases this
              · exact h0 this
          have HD2 : Hid (dec n M (putS n s x) (zs.drop (k + 1)) = (p, 0)) := Lib.hid (by rw [← dec_go hput]; exact HD.out)
          have hpre : (putS n s x).out.length ≤ N := by
            obtain ⟨t, ht⟩ := dec_pre n M _ _ _ HD2.out
            rw [← hN, ht]; simp
          have HPU := Lib.hid (zput_any rb n M s x wr HI.out hn1 hn2 HO.out (by omega))
          obtain ⟨_, hx0, hx1⟩ := putE_of hput
          have HPT := Lib.hid hput
          clear hput
          go_wp2_with fail
          refine HPU.out.mono ?_
          rintro e w4 ⟨ht, hp⟩
          have hp2 := hp.resolve_right (fun h => h.1 HPT.out)
          obtain ⟨_, rfl, hI2⟩ := hp2
          have HI2 := Lib.hid hI2
          have HO2 := Lib.hid (HO.out.put HPT.out)
          have HB4 := Lib.hid (HB3.out.trans (ht.below HB3.out.size (fun i hi => by have hi' : i = rb := hi; omega)))
          have HR4 := Lib.hid (HR.out.other ht (fun e => by have e' : g = rb := e; omega))
          clear hp ht hI2 HPU
          by_cases hc2 : x < 2
          · have hZ : putZ s x = 0 := by unfold putZ; rw [if_pos hc2]
            have hP : putP n x = -1 := by unfold putP; rw [if_pos (Or.inl hc2)]
            have hol : (putS n s x).out.length = s.out.length := by rw [putS_part hc2]
            have HRM : Hid (RowI w4 g (room N (putS n s x))) := Lib.hid (by rw [room_part hc2]; exact HR4.out)
            rw [hZ, hP]
            have HOL : Hid ((s.out.length : Int) = ((putS n s x).out.length : Int)) := Lib.hid (by rw [hol])
            have hsi : (s.out.length : Int) ≤ 1000000 := by omega
            generalize putS n s x = s2 at *
            generalize s.out.length = A at *
            clear hZ hP hol HI HD HO HR HDR
            have hwA : IntKind.i64.wrap ((A : Int) + 0) = (A : Int) := IntWalk.i64_in _ (by omega)
            have hwA2 : IntKind.i64.wrap (A : Int) = (A : Int) := IntWalk.i64_in _ (by omega)
            go_wp2_with fail
            go_roundw
            case rel => exact ⟨k + 1, s2, by omega, by go_num, by rw [HOL.out], HI2.out, HO2.out, HD2.out, HRM.out, HB4.out⟩
            case measure => simp [intOf]; omega
          · by_cases hc3 : x = n + 1
            · have hZ : putZ s x = val s.rc := by unfold putZ; rw [if_neg hc2]
              have hP : putP n x = -1 := by unfold putP; rw [if_pos (Or.inr hc3)]
              have hol : (putS n s x).out.length = s.out.length + val s.rc := by rw [putS_end hc2 hc3]; simp
              have HRM : Hid (RowI w4 g (room N (putS n s x))) := Lib.hid (by rw [room_end hc2 hc3 (by omega)]; exact HR4.out)
              rw [hZ, hP]
              have HOL : Hid ((s.out.length : Int) + (val s.rc : Int) = ((putS n s x).out.length : Int)) := Lib.hid (by rw [hol]; simp)
              generalize putS n s x = s2 at *
              generalize s.out.length = A at *
              generalize val s.rc = V at *
              clear hZ hP hol HI HD HO HR HDR
              have hwA : IntKind.i64.wrap ((A : Int) + (V : Int)) = (A : Int) + (V : Int) := IntWalk.i64_in _ (by omega)
              go_wp2_with fail
              go_roundw
              case rel => exact ⟨k + 1, s2, by omega, by go_num, by rw [HOL.out], HI2.out, HO2.out, HD2.out, HRM.out, HB4.out⟩
              case measure => simp [intOf]; omega
            · have hZ : putZ s x = val s.rc := by unfold putZ; rw [if_neg hc2]
              have hP : putP n x = x - 1 := by unfold putP; rw [if_neg (by omega)]
              have hol : (putS n s x).out.length = s.out.length + val s.rc + 1 := by rw [putS_one hc2 hc3]; simp; omega
              have hlt : s.out.length + val s.rc < N := by omega
              have HRO : Hid (room N (putS n s x) = (room N s).set (s.out.length + val s.rc) (x - 1)) := Lib.hid (room_one hc2 hc3 hlt)
              obtain ⟨d0, d1, d2⟩ := HR4.out.cell (i := s.out.length + val s.rc) (by rw [room_len (by omega)]; omega)
              have hd2 := d2 (x - 1)
              rw [← HRO.out] at hd2
              have HD3 := Lib.hid hd2
              rw [hZ, hP]
              have HOL : Hid ((s.out.length : Int) + (val s.rc : Int) + 1 = ((putS n s x).out.length : Int)) := Lib.hid (by rw [hol]; simp)
              have HI3 := Lib.hid (HI2.out.other ((Touch.refl (· = g) w4).setCell (p := ⟨g, s.out.length + val s.rc, none⟩) (Or.inl rfl) (.int .i64 (x - 1))) (fun e => by have e' : rb = g := e; omega))
              have HB5 := Lib.hid (HB4.out.setCell (p := ⟨g, s.out.length + val s.rc, none⟩) (by show w.heap.size ≤ g; omega) (.int .i64 (x - 1)))
              clear d2 hd2
              generalize (room N s).getD (s.out.length + val s.rc) 0 = old at *
              generalize putS n s x = s2 at *
              generalize hA : s.out.length = A at *
              generalize hVV : val s.rc = V at *
              clear hZ hP hol HI HD HO HR HDR HRO HR4 HI2 HB4 hA hVV
              obtain ⟨T, hT⟩ : ∃ T, A + V = T := ⟨_, rfl⟩
              rw [hT] at d0 d1 HI3 HB5 HD3
              have hTI : (A : Int) + (V : Int) = (T : Int) := by omega
              rw [hTI] at HOL
              have hwA : IntKind.i64.wrap ((A : Int) + (V : Int)) = (T : Int) := by rw [hTI]; exact IntWalk.i64_in _ (by omega)
              have hwT : IntKind.i64.wrap (T : Int) = (T : Int) := IntWalk.i64_in _ (by omega)
              have hwT1 : IntKind.i64.wrap ((T : Int) + 1) = (T : Int) + 1 := IntWalk.i64_in _ (by omega)
              have hT1 : (0 : Int) ≤ (T : Int) := by omega
              have hT2 : (T : Int) < (N : Int) := by omega
              have hpos : (0 : Int) < x - 1 := by omega
              go_wp2_with fail
              go_roundw
              case rel => exact ⟨k + 1, s2, by omega, by go_num, by rw [HOL.out], HI3.out, HO2.out, HD2.out, HD3.out, HB5.out⟩
              case measure => simp [intOf]; omega
        · obtain rfl : k = zs.length := by omega
          rw [List.drop_length] at HD
          have hfin := HD.out
          simp only [dec] at hfin
          have hout : s.out = p := by
            split at hfin
            · exact congrArg Prod.fst hfin
            · have := congrArg Prod.snd hfin
              simp at this
          have HR5 : Hid (RowI wr g p) := Lib.hid (by
            have := HR.out
            unfold room at this
            rw [hout, hN, Nat.sub_self, List.replicate_zero, List.append_nil] at this
            exact this)
          clear hfin hout
          go_wp2_with fail
          go_ret2
          exact ⟨_, p, 0, rfl, HR5.out.ints N N hN.symm, HB3.out, Or.inr ⟨HOK.out, HDEC.out.symm⟩⟩
    · have hei : ((err : Int) != 0) = true := by rw [bne_iff_ne]; omega
      have hpn : p = [] := dec_nil n most.toNat zs ini p err h2 he
      subst hpn
      have HDEC := Lib.hid h2
      clear h1 h2
      go_wp2_with fail
      go_ret2
      exact ⟨_, [], err, rfl, IsInts.nil _, HB.out, Or.inr ⟨HOK.out, HDEC.out.symm⟩⟩
end Go.Proofs.Ythfdmmlamomlkaa

/-
  THE WALKS OF LAYER 7's CODE (package zeros): NewReader, length, Decode.
-/
import Derived.Test.YthfdmmlamomlkaaZerD
namespace Go.Proofs.Ythfdmmlamomlkaa
open Go.RowKit ZerM
set_option linter.unusedVariables false
set_option maxRecDepth 100000 in
set_option maxHeartbeats 1000000 in
theorem znew_bad (n most : Int) (w : World) (h : ¬ DecOk n most) : Calls Try.prog 23 #[.int .i64 n, .int .i64 most] w fun e w' => e = .returned (.tuple #[.pointer none, .int .i64 1]) ∧ w = w' := by
  by_cases hn : 1 ≤ n ∧ n ≤ 256
  · have HS := Lib.hid (isSize_any n true w ⟨fun _ => hn, fun _ => rfl⟩)
    by_cases h0 : most < 0
    · clear h hn
      go_enter Try.func23, Try.ntmps23
      go_wp2_with fail
      refine HS.out.mono ?_
      rintro e w1 ⟨rfl, rfl⟩
      go_wp2_with fail
      go_ret2
      exact ⟨rfl, rfl⟩
    · have h1 : 1099511627776 < most := by
        have : ¬ most ≤ 1099511627776 := fun h1 => h ⟨hn.1, hn.2, by omega, h1⟩
        omega
      clear h hn
      go_enter Try.func23, Try.ntmps23
      go_wp2_with fail
      refine HS.out.mono ?_
      rintro e w1 ⟨rfl, rfl⟩
      go_wp2_with fail
      go_ret2
      exact ⟨rfl, rfl⟩
  · have HS := Lib.hid (isSize_any n false w ⟨fun e => (by cases e), fun e => absurd e hn⟩)
    clear h hn
    go_enter Try.func23, Try.ntmps23
    go_wp2_with fail
    refine HS.out.mono ?_
    rintro e w1 ⟨rfl, rfl⟩
    go_wp2_with fail
    go_ret2
    exact ⟨rfl, rfl⟩
theorem zr_ini (w : World) (n : Int) (most : Nat) : IsZR (w.alloc (.cells #[.int .i64 n, .int .i64 (most : Int), .int .i64 0, .int .i64 0, .int .i64 0, .bool false] 60)) w.heap.size n most ini :=
  zr_of (heap_alloc_new w _) rfl rfl rfl rfl
set_option maxRecDepth 100000 in
set_option maxHeartbeats 1000000 in
theorem znew_ok (n : Int) (most : Nat) (w : World) (h : DecOk n most) : Calls Try.prog 23 #[.int .i64 n, .int .i64 (most : Int)] w fun e w' => e = .returned (.tuple #[.pointer (some ⟨w.heap.size, 0, none⟩), .int .i64 0]) ∧ IsZR w' w.heap.size n most ini ∧ Below w.heap.size w w' := by
  have HS := Lib.hid (isSize_any n true w ⟨fun _ => ⟨h.1, h.2.1⟩, fun _ => rfl⟩)
  have h1 := h.2.2.2
  have h0 : ¬ (most : Int) < 0 := by omega
  have h2 : ¬ (1099511627776 : Int) < (most : Int) := by omega
  clear h
  go_enter Try.func23, Try.ntmps23
  go_wp2_with fail
  refine HS.out.mono ?_
  rintro e w1 ⟨rfl, rfl⟩
  go_wp2_with fail
  go_ret2
  exact ⟨rfl, zr_ini _ _ _, (Below.refl _ _).alloc (Nat.le_refl _) _⟩
/-- What length tells. -/
def LenP (l : List Int) (n most : Int) (x err : Nat) : Prop := (¬ DecOk n most ∧ x = 0 ∧ err = 1) ∨ (DecOk n most ∧ ∃ p, dec n most.toNat ini l = (p, err) ∧ p.length = x)
set_option maxRecDepth 100000 in
set_option maxHeartbeats 2000000 in
theorem zlength_any (v : Value) (zs : List Int) (n most : Int) (w : World) (hv : IsInts w v zs) (hz : zs.length ≤ 1000000) :
    Calls Try.prog 51 #[v, .int .i64 n, .int .i64 most] w fun e w' => ∃ (x err : Nat), e = .returned (.tuple #[.int .i64 (x : Int), .int .i64 (err : Int)]) ∧ Below w.heap.size w w' ∧ LenP zs n most x err := by
  have HV := Lib.hid hv
  obtain ⟨a, cap, rfl, _⟩ := hv
  by_cases hok : DecOk n most
  · obtain ⟨M, rfl⟩ : ∃ M : Nat, most = (M : Int) := ⟨most.toNat, by have := hok.2.2.1; omega⟩
    have HN := Lib.hid (znew_ok n M w hok)
    have hn1 := hok.1
    have hn2 := hok.2.1
    have hM : M ≤ 1099511627776 := by have := hok.2.2.2; omega
    have HOK := Lib.hid hok
    clear hok
    go_enter Try.func51, Try.ntmps51
    go_wp2_with fail
    refine HN.out.mono ?_
    rintro e w1 ⟨rfl, hI, hB⟩
    have HI := Lib.hid hI
    have HB := Lib.hid hB
    clear hI hB HN
    generalize hrb : w.heap.size = rb at *
    go_wp2_with fail
    go_loopw [26] (fun i wr => ∃ (k : Nat) (s : St), k ≤ zs.length ∧ i = .int .i64 k ∧ IsZR wr rb n M s ∧ Ok M s ∧ dec n M ini zs = dec n M s (zs.drop k) ∧ Below rb w wr) (fun i _ => zs.length - (intOf i).toNat)
    case atStart => exact ⟨0, ini, by omega, rfl, HI.out, Ok.ini M, rfl, HB.out⟩
    case round =>
      clear HI HB
      obtain ⟨k, s, hk, rfl, hI, hO, hD, hB⟩ := hrel
      have HI := Lib.hid hI
      have HB := Lib.hid hB
      have HO := Lib.hid hO
      have HD := Lib.hid hD
      clear hI hB hO hD
      have HDN := Lib.hid (fun W (h : IsZR W rb n M s) => zdone_any rb n M s W h)
      by_cases hlk : k < zs.length
      · have hki : (k : Int) < (zs.length : Int) := by omega
        have HV2 := Lib.hid (HV.out.below (hrb ▸ HB.out))
        obtain ⟨b1, o1, k1, he1, c1⟩ := HV2.out.cell hlk
        simp only [Value.slice.injEq] at he1
        obtain ⟨rfl, _, rfl⟩ := he1
        obtain ⟨x, hx⟩ : ∃ x, zs.getD k 0 = x := ⟨_, rfl⟩
        have HDR : Hid (zs.drop k = x :: zs.drop (k + 1)) := Lib.hid (by
          rw [List.drop_eq_getElem_cons hlk, ← hx, List.getD_eq_getElem?_getD, List.getElem?_eq_getElem hlk]
          rfl)
        rw [hx] at c1
        clear hx
        rw [HDR.out] at HD
        by_cases hd : s.done = true
        · have HE : Hid (dec n M ini zs = ([], 25)) := Lib.hid (by
            rw [HD.out, dec_stop (by unfold putE; rw [if_pos hd]; decide)]
            unfold putE
            rw [if_pos hd]; rfl)
          rw [hd] at HDN
          go_wp2_with fail
          refine (HDN.out _ HI.out).mono ?_
          rintro e w2 ⟨rfl, rfl⟩
          go_wp2_with fail
          go_ret2
          exact ⟨0, 25, rfl, hrb ▸ HB.out, Or.inr ⟨HOK.out, [], HE.out, rfl⟩⟩
        · have hd2 : s.done = false := by simpa using hd
          rw [hd2] at HDN
          have HPU := Lib.hid (fun W (h : IsZR W rb n M s) => zput_any rb n M s x W h hn1 hn2 HO.out hM)
          have HPD := Lib.hid (show s.done = false from hd2)
          clear hd hd2
          go_wp2_with fail
          refine (HDN.out _ HI.out).mono ?_
          rintro e w2 ⟨rfl, rfl⟩
          go_wp2_with fail
          refine (HPU.out _ HI.out).mono ?_
          rintro e w2 ⟨ht, hp⟩
          have HB2 := Lib.hid (HB.out.trans (ht.below (hrb ▸ HB.out.size) (fun i hi => by have hi' : i = rb := hi; omega)))
          clear ht
          rcases hp with ⟨h1, rfl, h2⟩ | ⟨h1, rfl, h2⟩
          · have HD2 : Hid (dec n M ini zs = dec n M (putS n s x) (zs.drop (k + 1))) := Lib.hid (by rw [HD.out, dec_go h1])
            have HI2 := Lib.hid h2
            have HO2 := Lib.hid (HO.out.put h1)
            generalize putS n s x = s2 at *
            generalize putZ s x = Z at *
            generalize putP n x = P at *
            clear h1 h2 HPU HDN
            go_wp2_with fail
            go_roundw
            case rel => exact ⟨k + 1, s2, by omega, by go_num, HI2.out, HO2.out, HD2.out, HB2.out⟩
            case measure => simp [intOf]; omega
          · have HE : Hid (dec n M ini zs = ([], putE n M s x)) := Lib.hid (by
              rw [HD.out, dec_stop h1, if_neg]
              unfold putE
              rw [if_neg (by rw [HPD.out]; decide)]
              split
              · decide
              · split <;> decide)
            obtain ⟨E, hE⟩ : ∃ E, putE n M s x = E := ⟨_, rfl⟩
            rw [hE] at h1 HE
            rw [hE]
            have h1i : ((E : Int) != 0) = true := by rw [bne_iff_ne]; omega
            clear h2 hE HPU HDN
            go_wp2_with fail
            go_ret2
            exact ⟨0, E, rfl, hrb ▸ HB2.out, Or.inr ⟨HOK.out, [], HE.out, rfl⟩⟩
      · obtain rfl : k = zs.length := by omega
        rw [List.drop_length] at HD
        by_cases hd : s.done = true
        · have HE : Hid (dec n M ini zs = (s.out, 0)) := Lib.hid (by rw [HD.out]; simp only [dec]; rw [if_pos hd])
          have hcn : cnt s = s.out.length := by unfold cnt; rw [HO.out.fin hd]; rfl
          have HCN := Lib.hid (fun W (h : IsZR W rb n M s) => zcount_any rb n M s W h)
          rw [hd] at HDN
          rw [hcn] at HCN
          clear hcn hd
          go_wp2_with fail
          refine (HDN.out _ HI.out).mono ?_
          rintro e w2 ⟨rfl, rfl⟩
          go_wp2_with fail
          refine (HCN.out _ HI.out).mono ?_
          rintro e w2 ⟨rfl, rfl⟩
          go_wp2_with fail
          go_ret2
          exact ⟨_, 0, rfl, hrb ▸ HB.out, Or.inr ⟨HOK.out, s.out, HE.out, rfl⟩⟩
        · have hd2 : s.done = false := by simpa using hd
          have HE : Hid (dec n M ini zs = ([], 24)) := Lib.hid (by rw [HD.out]; simp only [dec]; rw [if_neg hd])
          rw [hd2] at HDN
          clear hd hd2
          go_wp2_with fail
          refine (HDN.out _ HI.out).mono ?_
          rintro e w2 ⟨rfl, rfl⟩
          go_wp2_with fail
          go_ret2
          exact ⟨0, 24, rfl, hrb ▸ HB.out, Or.inr ⟨HOK.out, [], HE.out, rfl⟩⟩
  · have HN := Lib.hid (znew_bad n most w hok)
    have HNO := Lib.hid hok
    clear hok
    go_enter Try.func51, Try.ntmps51
    go_wp2_with fail
    refine HN.out.mono ?_
    rintro e w1 ⟨rfl, rfl⟩
    go_wp2_with fail
    go_ret2
    exact ⟨0, 1, rfl, Below.refl _ _, Or.inl ⟨HNO.out, rfl, rfl⟩⟩
end Go.Proofs.Ythfdmmlamomlkaa

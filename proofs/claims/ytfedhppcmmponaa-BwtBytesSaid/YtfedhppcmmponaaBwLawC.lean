/-
  LAYER 17's STATEMENTS: BwtFrom, BwtBytes.
-/
import Derived.Test.YtfedhppcmmponaaBwLawA
namespace Go.Proofs.Ytfedhppcmmponaa
open Go.RowKit BwtM SrtM PkM
set_option linter.unusedVariables false
set_option linter.unusedSimpArgs false
set_option maxHeartbeats 2000000 in
theorem ordered_none (a : Option Addr) (cap n : Nat) (w : World) (h0 : 0 < n) (hn : n ≤ 500000) : Calls Try.prog 30 #[.slice a 0 cap, .int .i64 (n : Int)] w fun e w' => e = .returned (.bool false) ∧ w' = w := by
  have hE : ((0 : Int) == (n : Int)) = false := by rw [beq_eq_false_iff_ne]; omega
  go_enter Try.func30, Try.ntmps30
  go_wp2_with fail
  go_loop [11] (fun vi => vi = .int .i64 0) (fun _ => 0)
  case atStart => rfl
  case round =>
    subst hrel
    go_wp2_with fail
    go_ret
    exact ⟨rfl, rfl⟩
set_option maxRecDepth 100000 in
set_option maxHeartbeats 8000000 in
theorem bwtFrom.walk (s : ByteArray) (l : Option Addr) (llen lcap : Nat) (lz : List Int) (w : World) (hs : s.size ≤ maxLen) (hl : IsRow .i64 w l llen lcap lz) :
    Calls Try.prog 8 #[.string s, .slice l llen lcap] w fun e w' => e = .returned (.bool true) ∧ Below w.heap.size w w' := by
  have HBA := Lib.hid (fun W => banana17_any W)
  obtain ⟨hI, hlen⟩ := ints_in hl
  have hcap := isRow_len hl
  clear hs hl
  by_cases h1 : 100 < s.size
  · have h1i : (100 : Int) < (s.size : Int) := by omega
    clear hI hlen
    go_enter Try.func8, Try.ntmps8
    go_wp2_with fail
    refine (HBA.out _).mono ?_
    rintro e w1 ⟨rfl, hb1⟩
    have HB1 := Lib.hid hb1
    clear hb1
    go_wp2_with fail
    go_ret
    exact ⟨rfl, HB1.out⟩
  · have h1i : ¬ (100 : Int) < (s.size : Int) := by omega
    by_cases h2 : 100 < llen
    · have h2i : (100 : Int) < (llen : Int) := by omega
      clear hI hlen
      go_enter Try.func8, Try.ntmps8
      go_wp2_with fail
      refine (HBA.out _).mono ?_
      rintro e w1 ⟨rfl, hb1⟩
      have HB1 := Lib.hid hb1
      clear hb1
      go_wp2_with fail
      go_ret
      exact ⟨rfl, HB1.out⟩
    · have h2i : ¬ (100 : Int) < (llen : Int) := by omega
      obtain ⟨zs, hzs⟩ : ∃ zs, lz.take llen = zs := ⟨_, rfl⟩
      rw [hzs] at hI hlen
      clear hzs
      by_cases h0 : s.size = 0
      · obtain rfl := no_bytes s h0
        have HF := Lib.hid (bfrom_no ByteArray.empty (.slice l llen lcap) zs w (by omega) (Or.inl h0) hI (by omega))
        clear h1 h1i h0 hI hlen h2
        go_enter Try.func8, Try.ntmps8
        go_wp2_with fail
        refine HF.out.mono ?_
        rintro e w1 ⟨rfl, hb1⟩
        have HB1 := Lib.hid hb1
        clear hb1
        go_wp2_with fail
        refine (HBA.out _).mono ?_
        rintro e w2 ⟨rfl, hb2⟩
        have HB2 := Lib.hid (HB1.out.trans (hb2.mono HB1.out.size))
        clear hb2
        go_wp2_with fail
        go_ret
        exact ⟨rfl, HB2.out⟩
      · have hemp := some_bytes s (by omega)
        by_cases hll : llen = 0
        · subst hll
          have HF := Lib.hid (bfrom_no s (.slice l 0 lcap) zs w (by omega) (Or.inr (fun h => by
            have := (ordOf_marks.1 h).1
            omega)) hI (by omega))
          have HO := Lib.hid (fun W => ordered_none l lcap s.size W (by omega) (by omega))
          clear hI hlen h2 h2i
          go_enter Try.func8, Try.ntmps8
          go_wp2_with fail
          refine HF.out.mono ?_
          rintro e w1 ⟨rfl, hb1⟩
          have HB1 := Lib.hid hb1
          clear hb1
          go_wp2_with fail
          refine (HO.out _).mono ?_
          rintro e w2 ⟨rfl, rfl⟩
          go_wp2_with fail
          refine (HBA.out _).mono ?_
          rintro e w3 ⟨rfl, hb2⟩
          have HB2 := Lib.hid (HB1.out.trans (hb2.mono HB1.out.size))
          clear hb2
          go_wp2_with fail
          go_ret
          exact ⟨rfl, HB2.out⟩
        · obtain ⟨bo, off, cp, hvv, hc⟩ := hI.cell (k := 0) (by rw [hlen]; omega)
          have hblt := cell_lt hc
          simp only [Value.slice.injEq] at hvv
          obtain ⟨rfl, hxx, rfl⟩ := hvv
          clear hxx hc
          by_cases hord : OrdOf zs s.size
          · obtain ⟨P, rfl, hp⟩ := hord
            have hlp : P.length = s.size := by rw [hp.length_eq, List.length_range]
            have hle : llen = s.size := by rw [← hlen, toI_length, hlp]
            subst hle
            have HF := Lib.hid (bfrom_any s s.size P bo off lcap w rfl (by omega) (by omega) hp hI hblt hcap.1 hcap.2)
            have HO := Lib.hid (fun W (h : IsInts W (.slice (some ⟨bo, off, none⟩) s.size lcap) (toI P)) => ordered_any bo off s.size lcap s.size (toI P) true W h (by rw [toI_length, hlp]) ⟨fun _ => ⟨P, rfl, hp⟩, fun _ => rfl⟩ (by omega) (by omega) hcap.1 hcap.2)
            have HRF := Lib.hid (fun W (h : IsInts W (.slice (some ⟨bo, off, none⟩) s.size lcap) (toI P)) => rfrom_any s s.size P _ W rfl (by omega) (by omega) (fun p hp2 => List.mem_range.1 (hp.mem_iff.1 hp2)) hlp h)
            obtain ⟨L, hL⟩ : ∃ L : ByteArray, (⟨(lastN s.data.toList P s.size).toArray⟩ : ByteArray) = L := ⟨_, rfl⟩
            obtain ⟨og, hog⟩ : ∃ og, orgN P s.size = og := ⟨_, rfl⟩
            rw [hL, hog] at HF HRF
            have HI := Lib.hid hI
            have hLL : (L.toList == L.toList) = true := list_eq_test L L true ⟨fun _ => rfl, fun _ => rfl⟩
            clear hI hlen h2 h2i hp hlp hL hog hll
            go_enter Try.func8, Try.ntmps8
            go_wp2_with fail
            refine HF.out.mono ?_
            rintro e w1 ⟨rfl, hb1⟩
            have HB1 := Lib.hid hb1
            have HI1 := Lib.hid (HI.out.below hb1)
            clear hb1
            go_wp2_with fail
            refine (HO.out w1 HI1.out).mono ?_
            rintro e w2 ⟨rfl, rfl⟩
            go_wp2_with fail
            refine (HRF.out _ HI1.out).mono ?_
            rintro e w3 ⟨rfl, hb3⟩
            have HB3 := Lib.hid (HB1.out.trans (hb3.mono HB1.out.size))
            clear hb3
            obtain ⟨c0, c1⟩ := turned_box w3 L (og : Int)
            have HB4 : Hid (Below w.heap.size w (w3.alloc (.cells #[.string L, .int .i64 (og : Int)] 47))) := Lib.hid (HB3.out.alloc HB3.out.size _)
            go_wp2_with fail
            refine (HBA.out _).mono ?_
            rintro e w4 ⟨rfl, hb4⟩
            have HB5 := Lib.hid (HB4.out.trans (hb4.mono HB4.out.size))
            clear hb4
            go_wp2_with fail
            go_ret
            exact ⟨rfl, HB5.out⟩
          · have HF := Lib.hid (bfrom_no s (.slice (some ⟨bo, off, none⟩) llen lcap) zs w (by omega) (Or.inr hord) hI (by omega))
            have HO := Lib.hid (fun W (h : IsInts W (.slice (some ⟨bo, off, none⟩) llen lcap) zs) => ordered_any bo off llen lcap s.size zs false W h hlen ⟨fun e => (by cases e), fun e => absurd e hord⟩ (by omega) (by omega) hcap.1 hcap.2)
            have HI := Lib.hid hI
            clear hI hlen h2 hord
            go_enter Try.func8, Try.ntmps8
            go_wp2_with fail
            refine HF.out.mono ?_
            rintro e w1 ⟨rfl, hb1⟩
            have HB1 := Lib.hid hb1
            have HI1 := Lib.hid (HI.out.below hb1)
            clear hb1
            go_wp2_with fail
            refine (HO.out w1 HI1.out).mono ?_
            rintro e w2 ⟨rfl, rfl⟩
            go_wp2_with fail
            refine (HBA.out _).mono ?_
            rintro e w3 ⟨rfl, hb2⟩
            have HB2 := Lib.hid (HB1.out.trans (hb2.mono HB1.out.size))
            clear hb2
            go_wp2_with fail
            go_ret
            exact ⟨rfl, HB2.out⟩
/-! ### BwtBytes -/
theorem orgN_lt (P : List Nat) {n : Nat} (h : 0 < n) : orgN P n < n := by
  cases n with
  | zero => omega
  | succ k =>
    have h1 := orgN_le P k
    show (if P.getD k 0 = 0 then k else orgN P k) < k + 1
    split <;> omega
def cntT (T : List UInt8) (c : UInt8) (k : Nat) : Nat := (T.take k).count c
set_option maxHeartbeats 2000000 in
theorem counted_any (s : ByteArray) (c : UInt8) (w : World) (hs : s.size ≤ 1000000) : Calls Try.prog 41 #[.string s, .int .u8 (c.toNat : Int)] w fun e w' => e = .returned (.int .i64 (s.data.toList.count c : Int)) ∧ w' = w := by
  obtain ⟨q0, hq0⟩ : ∃ q0, s.data.toList.count c = q0 := ⟨_, rfl⟩
  rw [hq0]
  have HQ0 := Lib.hid hq0
  clear hq0
  have hl := txt_len s
  obtain ⟨n, hn⟩ : ∃ n, s.size = n := ⟨_, rfl⟩
  have HN := Lib.hid hn
  have HL := Lib.hid hl
  have hsi : (s.size : Int) = (n : Int) := by omega
  have hnb : n ≤ 1000000 := by omega
  clear hl
  go_enter Try.func41, Try.ntmps41
  go_wp2_with fail
  go_loop [9, 5] (fun vi vn => ∃ i q : Nat, vi = .int .i64 (i : Int) ∧ i ≤ n ∧ vn = .int .i64 (q : Int) ∧ q = (s.data.toList.take i).count c) (fun vi _ => n - (intOf vi).toNat)
  case atStart => exact ⟨0, 0, rfl, Nat.zero_le _, rfl, by simp⟩
  case round =>
    obtain ⟨i, q, rfl, hi, rfl, hq⟩ := hrel
    have HQ := Lib.hid hq
    have hqi : q ≤ i := by
      rw [hq]
      have := List.count_le_length (a := c) (l := s.data.toList.take i)
      rw [List.length_take] at this
      omega
    clear hq
    by_cases hin : i < n
    · have hii : (i : Int) < (n : Int) := by omega
      have his : i < s.size := by rw [HN.out]; exact hin
      have hb := bt_get s his
      have hTl : i < s.data.toList.length := by rw [HL.out]; exact his
      have hx : bt s.data.toList i = (s.data.toList.getD i 0).toNat := bt_in _ hTl
      have hnx : (s.data.toList.take (i + 1)).count c = (s.data.toList.take i).count c + if s.data.toList.getD i 0 = c then 1 else 0 := by
        rw [List.take_succ_eq_append_getElem hTl, List.count_append, List.getD_eq_getElem?_getD, List.getElem?_eq_getElem hTl]
        congr 1
        rw [List.count_singleton]
        simp only [Option.getD_some, beq_iff_eq]
      obtain ⟨x, hxE⟩ : ∃ x : UInt8, s.data.toList.getD i 0 = x := ⟨_, rfl⟩
      rw [hxE] at hx hnx
      rw [hx] at hb
      have HNX := Lib.hid hnx
      clear hx hxE hnx hTl
      by_cases hxc : x = c
      · subst hxc
        have hE : ((x.toNat : Int) == (x.toNat : Int)) = true := by rw [beq_iff_eq]
        have HQ2 : Hid (q + 1 = (s.data.toList.take (i + 1)).count x) := Lib.hid (by rw [HNX.out, if_pos rfl, ← HQ.out])
        go_wp2_with fail
        go_round
        case rel => exact ⟨i + 1, q + 1, by go_num, by omega, rfl, HQ2.out⟩
        case measure => simp [intOf]; omega
      · have hE : ((x.toNat : Int) == (c.toNat : Int)) = false := by
          rw [beq_eq_false_iff_ne]
          intro h
          exact hxc (UInt8.toNat.inj (by omega))
        have HQ2 : Hid (q = (s.data.toList.take (i + 1)).count c) := Lib.hid (by rw [HNX.out, if_neg hxc, ← HQ.out]; rfl)
        clear hxc
        go_wp2_with fail
        go_round
        case rel => exact ⟨i + 1, q, by go_num, by omega, rfl, HQ2.out⟩
        case measure => simp [intOf]; omega
    · have hii : ¬ (i : Int) < (n : Int) := by omega
      have HE : Hid (q = q0) := Lib.hid (by rw [HQ.out, List.take_of_length_le (by rw [HL.out, HN.out]; omega), HQ0.out])
      go_wp2_with fail
      go_ret
      exact ⟨by rw [HE.out]; rfl, rfl⟩
set_option maxRecDepth 100000 in
set_option maxHeartbeats 4000000 in
theorem bwtBytes.walk (s : ByteArray) (b : Int) (w : World) (hs : s.size ≤ maxLen) (hbw : (Lit.int .u8 b).wf = true) :
    Calls Try.prog 11 #[.string s, .int .u8 b] w fun e w' => e = .returned (.bool true) ∧ Below w.heap.size w w' := by
  have HBA := Lib.hid (fun W => banana17_any W)
  have hb2 : 0 ≤ b ∧ b ≤ 255 := by simpa [Lit.wf, IntKind.min, IntKind.max, IntKind.signed, IntKind.bits] using hbw
  obtain ⟨c, rfl⟩ : ∃ c : UInt8, b = (c.toNat : Int) := ⟨UInt8.ofNat b.toNat, by
    rw [UInt8.toNat_ofNat']
    omega⟩
  clear hs hbw hb2
  by_cases hl : 300 < s.size
  · have hli : (300 : Int) < (s.size : Int) := by omega
    go_enter Try.func11, Try.ntmps11
    go_wp2_with fail
    refine (HBA.out _).mono ?_
    rintro e w1 ⟨rfl, hb1⟩
    have HB1 := Lib.hid hb1
    clear hb1
    go_wp2_with fail
    go_ret
    exact ⟨rfl, HB1.out⟩
  · have hli : ¬ (300 : Int) < (s.size : Int) := by omega
    by_cases h0 : s.size = 0
    · obtain rfl := no_bytes s h0
      clear hl hli h0
      go_enter Try.func11, Try.ntmps11
      go_wp2_with fail
      refine (HBA.out _).mono ?_
      rintro e w1 ⟨rfl, hb1⟩
      have HB1 := Lib.hid hb1
      clear hb1
      go_wp2_with fail
      go_ret
      exact ⟨rfl, HB1.out⟩
    · have hemp := some_bytes s (by omega)
      have HOF := Lib.hid (fun W => bof_any s s.size W rfl (by omega) (by omega))
      have HL := Lib.hid (txt_len s)
      have HCS := Lib.hid (fun W => counted_any s c W (by omega))
      obtain ⟨q, hq⟩ : ∃ q, s.data.toList.count c = q := ⟨_, rfl⟩
      rw [hq] at HCS
      have HQ := Lib.hid hq
      clear hq
      go_enter Try.func11, Try.ntmps11
      go_wp2_with fail
      refine (HOF.out _).mono ?_
      rintro e w1 ⟨⟨P, hP, rfl⟩, hb1⟩
      have HB1 := Lib.hid hb1
      have hlp : P.length = s.size := by rw [hP.1.length_eq, List.length_range, HL.out]
      obtain ⟨L, hL⟩ : ∃ L : ByteArray, (⟨(lastN s.data.toList P s.size).toArray⟩ : ByteArray) = L := ⟨_, rfl⟩
      have hLs : L.size = s.size := by rw [← hL, text_size, lastN_len (by omega)]
      have HCL : Hid (∀ W, Calls Try.prog 41 #[.string L, .int .u8 (c.toNat : Int)] W fun e w' => e = .returned (.int .i64 (q : Int)) ∧ w' = W) := Lib.hid (fun W => by
        have h := counted_any L c W (by omega)
        have e : L.data.toList.count c = q := by
          rw [← HQ.out, ← hL]
          show (lastN s.data.toList P s.size).count c = _
          rw [lastN_lasts HL.out hP]
          exact (lasts_perm (by rw [HL.out]; omega) hP.ord).count_eq c
        rw [e] at h
        exact h)
      obtain ⟨og, hog⟩ : ∃ og, orgN P s.size = og := ⟨_, rfl⟩
      have hogn : (og : Int) < (s.size : Int) := by
        have := orgN_lt P (n := s.size) (by omega)
        omega
      have hog0 : (og : Int) ≥ 0 := by omega
      have hLi : (L.size : Int) = (s.size : Int) := by omega
      rw [hL, hog]
      clear hb1 hP hlp hL hog hLs
      go_wp2_with fail
      refine (HCL.out _).mono ?_
      rintro e w2 ⟨rfl, rfl⟩
      go_wp2_with fail
      refine (HCS.out _).mono ?_
      rintro e w3 ⟨rfl, rfl⟩
      go_wp2_with fail
      refine (HBA.out _).mono ?_
      rintro e w4 ⟨rfl, hb4⟩
      have HB4 := Lib.hid (HB1.out.trans (hb4.mono HB1.out.size))
      clear hb4
      go_wp2_with fail
      go_ret
      exact ⟨rfl, HB4.out⟩
end Go.Proofs.Ytfedhppcmmponaa

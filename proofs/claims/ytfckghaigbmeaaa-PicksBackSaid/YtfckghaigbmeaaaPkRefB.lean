/-
  THE WALKS OF THE DOCUMENT's ANSWERS OF LAYER 13 (balerref13): ones, Read.
-/
import Derived.Test.YtfckghaigbmeaaaPkRef
import Derived.Test.YtfckghaigbmeaaaPkE
namespace Go.Proofs.Ytfckghaigbmeaaa
open Go.RowKit PkM BitM
set_option linter.unusedVariables false
set_option maxRecDepth 100000 in
set_option maxHeartbeats 1000000 in
theorem rones_any (q : List Bool) (w : World) (hq : q.length ≤ 1000000) :
    Calls Try.prog 45 #[.string (txt q)] w fun e w' => e = .returned (.int .i64 ((lead q : Nat) : Int)) ∧ w' = w := by
  have hts := txt_size q
  have HTS := Lib.hid hts
  have HTT := Lib.hid (txt_testD q)
  have hzb : (txt q).size ≤ 1000000 := by omega
  have HLL := Lib.hid (lead_le q)
  clear hts
  go_enter Try.func45, Try.ntmps45
  go_wp2_with fail
  go_loopw [3] (fun vi wr => ∃ i : Nat, vi = .int .i64 (i : Int) ∧ i ≤ lead q ∧ wr = w) (fun vi _ => q.length - (intOf vi).toNat)
  case atStart => exact ⟨0, rfl, Nat.zero_le _, rfl⟩
  case round =>
    obtain ⟨i, rfl, hil, rfl⟩ := hrel
    by_cases hend : i < q.length
    · have hpz : i < (txt q).size := by have := HTS.out; omega
      have hpi : (i : Int) < ((txt q).size : Int) := by omega
      have hgk := HTT.out i hend hpz
      by_cases hb : q.getD i false = true
      · rw [hb] at hgk
        have hgk2 : ((txt q)[i].toNat : Int) = 49 := hgk
        have hil2 := Lib.hid (lead_next q i hil hend hb)
        clear hgk hb hil
        go_wp2_with fail
        go_roundw
        case rel => exact ⟨i + 1, by go_num, hil2.out, by first | rfl | trivial⟩
        case measure => simp [intOf]; omega
      · have hbf : q.getD i false = false := by simpa using hb
        rw [hbf] at hgk
        have hgk2 : ((txt q)[i].toNat : Int) = 48 := hgk
        have hil2 := Lib.hid (lead_stop q i hil hend hbf)
        clear hgk hb hbf hil
        go_wp2_with fail
        go_ret
        exact ⟨by rw [hil2.out]; rfl, rfl⟩
    · have hpi : ¬ (i : Int) < ((txt q).size : Int) := by have := HTS.out; omega
      have hil2 : Hid (lead q = i) := Lib.hid (by have := HLL.out; omega)
      clear hil
      go_wp2_with fail
      go_ret
      exact ⟨by rw [hil2.out]; rfl, rfl⟩
theorem one_gotP (a : Option Addr) (m c : Nat) (x y z u : Int) : (#[Value.slice a m c, .int .i64 x, .int .i64 y, .int .i64 z, .int .i64 u] : Array Value).all (·.oneCell') = true := by simp [Value.oneCell']
/-- What is told of bits. -/
def GotP (q : List Bool) (ps : List Nat) (t k to : Nat) (err : Int) : Prop :=
  match rd q with
  | .short => ps = [] ∧ t = 0 ∧ k = 0 ∧ to = 0 ∧ err = 3
  | .bad n => ps = [] ∧ t = 0 ∧ k = 0 ∧ to = n ∧ err = 25
  | .ok l n => ps = l ∧ t = num (q.take 3) ∧ k = n ∧ to = n ∧ err = 0
theorem GotP.short {q : List Bool} (h : rd q = .short) : GotP q [] 0 0 0 3 := by unfold GotP; rw [h]; exact ⟨rfl, rfl, rfl, rfl, rfl⟩
theorem GotP.bad {q : List Bool} {n : Nat} (h : rd q = .bad n) : GotP q [] 0 0 n 25 := by unfold GotP; rw [h]; exact ⟨rfl, rfl, rfl, rfl, rfl⟩
theorem GotP.ok {q : List Bool} {l : List Nat} {n t : Nat} (h : rd q = .ok l n) (ht : num (q.take 3) = t) : GotP q l t n n 0 := by unfold GotP; rw [h]; exact ⟨rfl, ht.symm, rfl, rfl, rfl⟩
/-- What the loop of the document's Read knows. -/
def PkInv (w wr : World) (q : List Bool) (T N p : Nat) (o : List Nat) (u : Value) (ps : List Nat) : Prop :=
  rd q = (run T (q.drop p) (N - ps.length) o).add ps p ∧ Six o ∧ OwnI wr (w.heap.size + 1) u (toI ps) ∧ Below w.heap.size w wr ∧ wr.heap[w.heap.size]? = some (.cells #[.slice none 0 0, .int .i64 0, .int .i64 0, .int .i64 0, .int .i64 0] 47 (0, 0))
theorem run_wrong2 {t : Nat} (q : List Bool) (m : Nat) (o : List Nat) (hl : t ≤ lead q) : run t q (m + 1) o = .bad t := by
  rw [run, if_pos hl]
theorem run_step2 {t : Nat} (q : List Bool) (m : Nat) (o : List Nat) (hl : ¬ t ≤ lead q) (hq : ¬ lead q = q.length) : run t q (m + 1) o = (run t (q.drop (lead q + 1)) m (tch o (lead q))).add [o.getD (lead q) 0] (lead q + 1) := by
  rw [run, if_neg hl, if_neg hq]
theorem txt_mid (q : List Bool) (h : 18 ≤ q.length) : (txt q).extract 3 18 = txt ((q.drop 3).take 15) := by
  apply ByteArray.ext
  apply Array.toList_inj.1
  simp only [txt, ByteArray.data_extract, List.extract_toArray, List.extract_eq_take_drop, ← List.map_drop, ← List.map_take]
theorem six_get {o : List Nat} (h : Six o) (i : Nat) (hi : i < 6) (hz : i < (⟨(lets o).toArray⟩ : ByteArray).size) : ((⟨(lets o).toArray⟩ : ByteArray)[i].toNat : Int) = ((48 + o.getD i 0 : Nat) : Int) := by
  have hl : i < o.length := by rw [h.1]; exact hi
  have h1 : (lets o)[i]? = some (UInt8.ofNat (48 + o.getD i 0)) := lets_get (by rw [List.getD_eq_getElem?_getD, List.getElem?_eq_getElem hl]; rfl)
  have h6 : o.getD i 0 < 6 := by
    rw [List.getD_eq_getElem?_getD, List.getElem?_eq_getElem hl]
    exact h.2 _ (List.getElem_mem hl)
  have h2 : (⟨(lets o).toArray⟩ : ByteArray)[i] = UInt8.ofNat (48 + o.getD i 0) := by
    have hz2 : i < (lets o).length := by rw [lets_length]; exact hl
    have h3 : (lets o)[i] = UInt8.ofNat (48 + o.getD i 0) := by
      rw [List.getElem?_eq_getElem hz2] at h1
      exact Option.some.inj h1
    exact h3
  rw [h2, let_nat _ h6]
set_option maxRecDepth 100000 in
set_option maxHeartbeats 4000000 in
theorem rread13_any (q : List Bool) (w : World) (hq : q.length ≤ 1000000) :
    Calls Try.prog 24 #[.string (txt q)] w fun e w' => ∃ (u : Value) (ps : List Nat) (t k to : Nat) (err : Int), e = .returned (.agg #[u, .int .i64 (t : Int), .int .i64 (k : Int), .int .i64 (to : Int), .int .i64 err]) ∧ IsInts w' u (toI ps) ∧ Below w.heap.size w w' ∧ GotP q ps t k to err ∧ (∀ j, u.ownBlock = some j → w.heap.size ≤ j ∧ j < w'.heap.size) := by
  have hts := txt_size q
  have hg0 : (w.alloc (.cells #[.slice none 0 0, .int .i64 0, .int .i64 0, .int .i64 0, .int .i64 0] 47)).heap[w.heap.size]? = some (.cells #[.slice none 0 0, .int .i64 0, .int .i64 0, .int .i64 0, .int .i64 0] 47 (0, 0)) := heap_alloc_new _ _
  have hi : (Try.prog.info? 47).map (·.size) = some 5 := by kernel_rfl
  have HTS := Lib.hid hts
  have hu := Try.underlying47
  by_cases hlen : q.length < 18
  · have hz : ((txt q).size : Int) < 18 := by omega
    have HN := Lib.hid (GotP.short (q := q) (by unfold rd; rw [if_pos hlen]))
    clear hts
    generalize txt q = T at *
    go_enter Try.func24, Try.ntmps24
    go_wp2_with (refine wpList_store_row rfl 47 _ _ rfl w.heap.size #[.slice none 0 0, .int .i64 0, .int .i64 0, .int .i64 0, .int .i64 3] rfl rfl 47 _ hg0 hi rfl (one_gotP _ _ _ _ _ _ _) ?_)
    refine bodyPost_ret (v := .agg #[.slice none 0 0, .int .i64 0, .int .i64 0, .int .i64 0, .int .i64 3]) (results_cell_row rfl _ _ w.heap.size 47 _ (0, 0) _ rfl (setRow_heap _ _ _ _ _ _ hg0) hu rfl hi) rfl ⟨.slice none 0 0, [], 0, 0, 0, 3, rfl, IsInts.nil _, below_setRow ((Below.refl _ _).alloc (Nat.le_refl _) _) (Nat.le_refl _) _, HN.out, fun j hj => absurd hj (by simp [Value.ownBlock])⟩
  · have h18 : 18 ≤ q.length := by omega
    have hz : ¬ ((txt q).size : Int) < 18 := by omega
    have htk : Hid ((txt q).extract 0 3 = txt (q.take 3)) := Lib.hid (txt_take q 3 (by omega))
    have htm : Hid ((txt q).extract 3 18 = txt ((q.drop 3).take 15)) := Lib.hid (txt_mid q h18)
    have hzb : (txt q).size ≤ 1000000 := by omega
    have h18z : (18 : Int) ≤ ((txt q).size : Int) := by omega
    have h3z : (3 : Int) ≤ ((txt q).size : Int) := by omega
    obtain ⟨_, n2, n3⟩ := num18 h18
    have HNUM1 := Lib.hid (fun W => number_any (q.take 3) W (by rw [List.length_take]; omega))
    have HNUM2 := Lib.hid (fun W => number_any ((q.drop 3).take 15) W (by rw [List.length_take, List.length_drop]; omega))
    have HRD : Hid (rd q = if num (q.take 3) < 2 ∨ 6 < num (q.take 3) ∨ num ((q.drop 3).take 15) = 0 then .bad 18 else (run (num (q.take 3)) (q.drop 18) (num ((q.drop 3).take 15)) [0, 1, 2, 3, 4, 5]).add [] 18) := Lib.hid (by unfold rd; rw [if_neg hlen])
    obtain ⟨T, hT⟩ : ∃ T, num (q.take 3) = T := ⟨_, rfl⟩
    have HT3 := Lib.hid hT
    obtain ⟨N, hN⟩ : ∃ N, num ((q.drop 3).take 15) = N := ⟨_, rfl⟩
    rw [hT] at n3 HNUM1 HRD
    rw [hN] at n2 HNUM2 HRD
    clear hT hN hts
    have HB0 : Hid (Below w.heap.size w (w.alloc (.cells #[.slice none 0 0, .int .i64 0, .int .i64 0, .int .i64 0, .int .i64 0] 47))) := Lib.hid ((Below.refl _ _).alloc (Nat.le_refl _) _)
    by_cases hbad : T < 2 ∨ 6 < T ∨ N = 0
    · have HN := Lib.hid (GotP.bad (q := q) (by rw [HRD.out, if_pos hbad]))
      have hparts : ((T : Int) < 2) ∨ (¬ (T : Int) < 2 ∧ (6 : Int) < T) ∨ (¬ (T : Int) < 2 ∧ ¬ (6 : Int) < T ∧ ((N : Int) == 0) = true) := by
        by_cases h1 : T < 2
        · exact Or.inl (by omega)
        · by_cases h2 : 6 < T
          · exact Or.inr (Or.inl ⟨by omega, by omega⟩)
          · exact Or.inr (Or.inr ⟨by omega, by omega, by rw [beq_iff_eq]; omega⟩)
      clear hbad
      rcases hparts with h1 | ⟨h1, h2⟩ | ⟨h1, h2, h3⟩
      all_goals
        go_enter Try.func24, Try.ntmps24
        go_wp2_with fail
        rw [htk.out]
        refine (HNUM1.out _).mono ?_
        rintro e w' ⟨rfl, rfl⟩
        go_wp2_with fail
        rw [htm.out]
        refine (HNUM2.out _).mono ?_
        rintro e w' ⟨rfl, rfl⟩
        go_wp2_with (refine wpList_store_row rfl 47 _ _ rfl w.heap.size #[.slice none 0 0, .int .i64 0, .int .i64 0, .int .i64 18, .int .i64 25] rfl rfl 47 _ hg0 hi rfl (one_gotP _ _ _ _ _ _ _) ?_)
        refine bodyPost_ret (v := .agg #[.slice none 0 0, .int .i64 0, .int .i64 0, .int .i64 18, .int .i64 25]) (results_cell_row rfl _ _ w.heap.size 47 _ (0, 0) _ rfl (setRow_heap _ _ _ _ _ _ hg0) hu rfl hi) rfl ⟨.slice none 0 0, [], 0, 0, 18, 25, rfl, IsInts.nil _, below_setRow ((Below.refl _ _).alloc (Nat.le_refl _) _) (Nat.le_refl _) _, HN.out, fun j hj => absurd hj (by simp [Value.ownBlock])⟩
    have HI0 : Hid (PkInv w (w.alloc (.cells #[.slice none 0 0, .int .i64 0, .int .i64 0, .int .i64 0, .int .i64 0] 47)) q T N 18 O6 (.slice none 0 0) []) := Lib.hid ⟨by rw [HRD.out, if_neg hbad]; rfl, Six.start, OwnI.nil _ _, HB0.out, hg0⟩
    have h1 : ¬ (T : Int) < 2 := by omega
    have h2 : ¬ (6 : Int) < (T : Int) := by omega
    have h3 : ((N : Int) == 0) = false := by rw [beq_eq_false_iff_ne]; omega
    clear HB0 hg0 hbad
    go_enter Try.func24, Try.ntmps24
    go_wp2_with fail
    rw [htk.out]
    refine (HNUM1.out _).mono ?_
    rintro e w' ⟨rfl, rfl⟩
    go_wp2_with fail
    rw [htm.out]
    refine (HNUM2.out _).mono ?_
    rintro e w' ⟨rfl, rfl⟩
    go_wp2_with fail
    go_loopw [5, 6, 7] (fun vo vl vp wr => ∃ (o : List Nat) (ps : List Nat) (p : Nat), vo = .string ⟨(lets o).toArray⟩ ∧ vp = .int .i64 (p : Int) ∧ p ≤ q.length ∧ ps.length ≤ N ∧ PkInv w wr q T N p o vl ps) (fun _ _ vp _ => q.length - (intOf vp).toNat)
    case atStart => exact ⟨O6, [], 18, rfl, rfl, h18, Nat.zero_le _, HI0.out⟩
    case round =>
      clear HI0 HNUM1 HNUM2 htk htm h1 h3
      rename_i vl _
      obtain ⟨o, ps, p, rfl, rfl, hp, hls, hI⟩ := hrel
      obtain ⟨hI1, hSx, hO, hB, hg⟩ := hI
      have HI := Lib.hid hI1
      have HSX := Lib.hid hSx
      have HO := Lib.hid hO
      have HB := Lib.hid hB
      have hpl := toI_length ps
      obtain ⟨al, cl, rfl⟩ := hO.slice
      rw [hpl] at HO ⊢
      have HPL := Lib.hid hpl
      have hlw : w.heap.size < wr.heap.size := (Array.getElem?_eq_some_iff.1 hg).1
      clear hI1 hO hB hSx hpl
      by_cases hdone : ps.length < N
      · have hdi : (ps.length : Int) < (N : Int) := by omega
        obtain ⟨M, hM⟩ : ∃ M, N - ps.length = M + 1 := ⟨N - ps.length - 1, by omega⟩
        have HM := Lib.hid hM
        rw [hM] at HI
        clear hM
        have HDR := Lib.hid (txt_drop q p hp)
        have hp0 : (0 : Int) ≤ (p : Int) := by omega
        have hpz : (p : Int) ≤ ((txt q).size : Int) := by have := HTS.out; omega
        have HON := Lib.hid (fun W => rones_any (q.drop p) W (by rw [List.length_drop]; omega))
        have hll := lead_le (q.drop p)
        rw [List.length_drop] at hll
        have HW := Lib.hid (fun h => run_wrong2 (t := T) (q.drop p) M o h)
        have HSH := Lib.hid (fun h h2 => run_short (t := T) (q.drop p) M o h h2)
        have HSTP := Lib.hid (fun h h2 => run_step2 (t := T) (q.drop p) M o h h2)
        have HQL : Hid ((q.drop p).length = q.length - p) := Lib.hid (List.length_drop)
        obtain ⟨L, hL⟩ : ∃ L, lead (q.drop p) = L := ⟨_, rfl⟩
        rw [hL] at HON hll HW HSH HSTP
        clear hL
        have hp1 : (p : Int) ≤ 1000000 := by omega
        by_cases hw : T ≤ L
        · have hwi : (T : Int) ≤ (L : Int) := by omega
          have HN := Lib.hid (GotP.bad (q := q) (n := p + T) (by rw [HI.out, HW.out hw]; rfl))
          have hPT : (p : Int) + (T : Int) = ((p + T : Nat) : Int) := by omega
          obtain ⟨E, hE⟩ : ∃ E, p + T = E := ⟨_, rfl⟩
          rw [hE] at HN hPT
          have hEw : IntKind.i64.wrap (E : Int) = (E : Int) := IntWalk.i64_in _ (by omega)
          clear hE
          go_wp2_with fail
          rw [HDR.out]
          refine (HON.out _).mono ?_
          rintro e w4 ⟨rfl, rfl⟩
          go_wp2_with (refine wpList_store_row rfl 47 _ _ rfl w.heap.size #[.slice none 0 0, .int .i64 0, .int .i64 0, .int .i64 (E : Int), .int .i64 25] rfl rfl 47 _ hg hi rfl (one_gotP _ _ _ _ _ _ _) ?_)
          refine bodyPost_ret (v := .agg #[.slice none 0 0, .int .i64 0, .int .i64 0, .int .i64 (E : Int), .int .i64 25]) (results_cell_row rfl _ _ w.heap.size 47 _ (0, 0) _ rfl (setRow_heap _ _ _ _ _ _ hg) hu rfl hi) rfl ⟨.slice none 0 0, [], 0, 0, E, 25, rfl, IsInts.nil _, below_setRow HB.out (Nat.le_refl _) _, HN.out, fun j hj => absurd hj (by simp [Value.ownBlock])⟩
        · have hwi : ¬ (T : Int) ≤ (L : Int) := by omega
          by_cases hsh : L = q.length - p
          · have HN := Lib.hid (GotP.short (q := q) (by rw [HI.out, HSH.out (by omega) (by rw [HQL.out]; exact hsh)]; rfl))
            have hne : ((p : Int) + (L : Int) == ((txt q).size : Int)) = true := by rw [beq_iff_eq]; have := HTS.out; omega
            clear hsh
            go_wp2_with fail
            rw [HDR.out]
            refine (HON.out _).mono ?_
            rintro e w4 ⟨rfl, rfl⟩
            go_wp2_with (refine wpList_store_row rfl 47 _ _ rfl w.heap.size #[.slice none 0 0, .int .i64 0, .int .i64 0, .int .i64 0, .int .i64 3] rfl rfl 47 _ hg hi rfl (one_gotP _ _ _ _ _ _ _) ?_)
            refine bodyPost_ret (v := .agg #[.slice none 0 0, .int .i64 0, .int .i64 0, .int .i64 0, .int .i64 3]) (results_cell_row rfl _ _ w.heap.size 47 _ (0, 0) _ rfl (setRow_heap _ _ _ _ _ _ hg) hu rfl hi) rfl ⟨.slice none 0 0, [], 0, 0, 0, 3, rfl, IsInts.nil _, below_setRow HB.out (Nat.le_refl _) _, HN.out, fun j hj => absurd hj (by simp [Value.ownBlock])⟩
          · have hne : ((p : Int) + (L : Int) == ((txt q).size : Int)) = false := by rw [beq_eq_false_iff_ne]; have := HTS.out; omega
            have hI2 := HSTP.out hw (by rw [HQL.out]; exact hsh)
            have hL6 : L < 6 := by omega
            have HEND : Hid (p + L + 1 ≤ q.length) := Lib.hid (by omega)
            have hlt2 := lets_length o
            rw [HSX.out.1] at hlt2
            have hsz : (⟨(lets o).toArray⟩ : ByteArray).size = 6 := by rw [text_size, hlt2]
            have hLz : L < (⟨(lets o).toArray⟩ : ByteArray).size := by omega
            have hgx := six_get HSX.out L hL6 hLz
            have HTC := Lib.hid (fun W => rtouch_any (lets o) L W (by rw [hlt2]; exact hL6) (by rw [hlt2]; omega))
            rw [lets_tch] at HTC
            have HS2 := Lib.hid (HSX.out.tch hL6)
            obtain ⟨X, hX⟩ : ∃ X, o.getD L 0 = X := ⟨_, rfl⟩
            rw [hX] at hI2 hgx
            have HI2 : Hid (rd q = (run T (q.drop (p + L + 1)) (N - (ps ++ [X]).length) (tch o L)).add (ps ++ [X]) (p + L + 1)) := Lib.hid (by
              rw [HI.out, hI2, add_add, List.drop_drop, List.length_append, show N - (ps.length + [X].length) = M from by have := HM.out; show N - (ps.length + 1) = M; omega, Nat.add_assoc])
            have HLN : Hid ((ps ++ [X]).length ≤ N) := Lib.hid (by rw [List.length_append]; exact hdone)
            have HX := Lib.hid hX
            have hl258 : (toI ps).length + 1 ≤ 17592186044416 := by rw [HPL.out]; omega
            have hgy : ((⟨(lets o).toArray⟩ : ByteArray)[L].toNat : Int) = 48 + (X : Int) := by rw [hgx]; omega
            have hX32 : (X : Int) ≤ 300 := by have h9 := (⟨(lets o).toArray⟩ : ByteArray)[L].toNat_lt; omega
            have hLi6 : (L : Int) < 6 := by omega
            have hLi0 : (0 : Int) ≤ (L : Int) := by omega
            have hbound : (p : Int) + (L : Int) ≤ 2000000 := by omega
            clear hI2 hgx hX HI HSTP HSH HW hlt2 hsh
            have hsz2 : ((⟨(lets o).toArray⟩ : ByteArray).size : Int) = 6 := by omega
            generalize (⟨(lets o).toArray⟩ : ByteArray) = LT at *
            go_wp2_with fail
            rw [HDR.out]
            refine (HON.out _).mono ?_
            rintro e w4 ⟨rfl, rfl⟩
            go_wp2_with (at_builtin; refine push_int _ rfl _ _ rfl (w.heap.size + 1) _ (toI ps) (48 + (X : Int) - 48) HO.out rfl rfl hl258 (by omega) ?_)
            intro v3 w3 hO3 hB3
            have HO3 : Hid (OwnI w3 (w.heap.size + 1) v3 (toI (ps ++ [X]))) := Lib.hid (by rw [show (48 + (X : Int) - 48) = (X : Int) by omega] at hO3; rw [toI_app]; exact hO3)
            have HB3 := Lib.hid (HB.out.trans (hB3.mono (Nat.le_succ _)))
            have hg3 := (hB3.block w.heap.size (Nat.lt_succ_self _)).trans hg
            clear hO3 hB3
            go_wp2_with fail
            refine (HTC.out _).mono ?_
            rintro e w5 ⟨rfl, m5, hw5⟩
            have HO5 : Hid (OwnI w5 (w.heap.size + 1) v3 (toI (ps ++ [X]))) := Lib.hid (by rw [hw5]; exact HO3.out.drewN m5)
            have HB5 : Hid (Below w.heap.size w w5) := Lib.hid (by rw [hw5]; exact HB3.out.trans ⟨rfl, rfl, rfl, Nat.le_refl _, fun _ _ => rfl⟩)
            have hg5 : w5.heap[w.heap.size]? = some (.cells #[.slice none 0 0, .int .i64 0, .int .i64 0, .int .i64 0, .int .i64 0] 47 (0, 0)) := by rw [hw5]; exact hg3
            clear hw5 hg3
            go_wp2_with fail
            have hend := HEND.out
            go_roundw
            case rel => exact ⟨tch o L, ps ++ [X], p + L + 1, rfl, by go_num, by omega, HLN.out, HI2.out, HS2.out, HO5.out, HB5.out, hg5⟩
            case measure => simp [intOf]; omega
      · have hdi : ¬ (ps.length : Int) < (N : Int) := by omega
        have hlN : N - ps.length = 0 := by omega
        have HN : Hid (GotP q ps T p p 0) := Lib.hid (GotP.ok (by rw [HI.out, hlN]; show Res.ok (ps ++ []) (p + 0) = _; rw [List.append_nil]; rfl) HT3.out)
        clear hlN
        go_wp2_with (refine wpList_store_row rfl 47 _ _ rfl w.heap.size #[.slice al ps.length cl, .int .i64 (T : Int), .int .i64 (p : Int), .int .i64 (p : Int), .int .i64 0] rfl rfl 47 _ hg hi rfl (one_gotP _ _ _ _ _ _ _) ?_)
        refine bodyPost_ret (v := .agg #[.slice al ps.length cl, .int .i64 (T : Int), .int .i64 (p : Int), .int .i64 (p : Int), .int .i64 0]) (results_cell_row rfl _ _ w.heap.size 47 _ (0, 0) _ rfl (setRow_heap _ _ _ _ _ _ hg) hu rfl hi) rfl ⟨_, ps, T, p, p, 0, rfl, ?_, below_setRow HB.out (Nat.le_refl _) _, HN.out, fun j hj => by have h5 := HO.out.lt j hj; exact ⟨by omega, by rw [setRow_size]; exact h5.2⟩⟩
        exact (HO.out.setRow w.heap.size _ (Nat.lt_succ_self _)).ints
end Go.Proofs.Ytfckghaigbmeaaa

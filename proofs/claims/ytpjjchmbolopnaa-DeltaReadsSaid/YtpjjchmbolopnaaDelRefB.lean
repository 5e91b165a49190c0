/-
  THE WALKS OF THE DOCUMENT's ANSWERS OF LAYER 11 (balerref11): Read.
-/
import Derived.Test.YtpjjchmbolopnaaDelMath
import Derived.Test.YtpjjchmbolopnaaInts
import Derived.Test.YtpjjchmbolopnaaBitsRef
import Derived.Test.YtpjjchmbolopnaaBitsRefB
import Derived.Test.YtpjjchmbolopnaaBitsL
namespace Go.Proofs.Ytpjjchmbolopnaa
open Go.RowKit DelM BitM
set_option linter.unusedVariables false
theorem txt_testD (q : List Bool) (k : Nat) (hk : k < q.length) (h : k < (txt q).size) : ((txt q)[k].toNat : Int) = 48 + (bn (q.getD k false) : Int) := by
  rw [txt_get q k hk h]
  congr 3
  rw [List.getD_eq_getElem?_getD, List.getElem?_eq_getElem hk]
  rfl
theorem drop_consB (q : List Bool) (k : Nat) (h : k < q.length) : q.drop k = q.getD k false :: q.drop (k + 1) := by
  rw [List.getD_eq_getElem?_getD, List.getElem?_eq_getElem h]
  exact List.drop_eq_getElem_cons h
theorem one_gotD (a : Option Addr) (m c : Nat) (x y : Int) : (#[Value.slice a m c, .int .i64 x, .int .i64 y] : Array Value).all (·.oneCell') = true := by simp [Value.oneCell']
/-- What is told of bits. -/
def ReadP (q : List Bool) (N : Nat) (ls : List Int) (k : Nat) (err : Int) : Prop :=
  match rd q N with
  | .short => ls = [] ∧ k = 0 ∧ err = 3
  | .table => ls = [] ∧ k = 0 ∧ err = 22
  | .ok l n => ls = l ∧ k = n ∧ err = 0
theorem ReadP.short {q : List Bool} {N : Nat} (h : rd q N = .short) : ReadP q N [] 0 3 := by unfold ReadP; rw [h]; exact ⟨rfl, rfl, rfl⟩
theorem ReadP.table {q : List Bool} {N : Nat} (h : rd q N = .table) : ReadP q N [] 0 22 := by unfold ReadP; rw [h]; exact ⟨rfl, rfl, rfl⟩
theorem ReadP.ok {q : List Bool} {N : Nat} {l : List Int} {n : Nat} (h : rd q N = .ok l n) : ReadP q N l n 0 := by unfold ReadP; rw [h]; exact ⟨rfl, rfl, rfl⟩
/-- What the loop of the document's Read knows. -/
def RdInv (w wr : World) (q : List Bool) (N p : Nat) (now : Int) (u : Value) (ls : List Int) : Prop :=
  rd q N = (run (q.drop p) (N - ls.length) now).add ls p ∧ OwnI wr (w.heap.size + 1) u ls ∧ Below w.heap.size w wr ∧ wr.heap[w.heap.size]? = some (.cells #[.slice none 0 0, .int .i64 0, .int .i64 0] 47 (0, 0))
set_option maxRecDepth 100000 in
set_option maxHeartbeats 4000000 in
theorem rread11_any (q : List Bool) (N : Nat) (w : World) (hq : q.length ≤ 1000000) (hN : N ≤ 258) :
    Calls Try.prog 26 #[.string (txt q), .int .i64 (N : Int)] w fun e w' => ∃ (u : Value) (ls : List Int) (k : Nat) (err : Int), e = .returned (.agg #[u, .int .i64 (k : Int), .int .i64 err]) ∧ IsInts w' u ls ∧ Below w.heap.size w w' ∧ ReadP q N ls k err ∧ (∀ j, u.ownBlock = some j → w.heap.size ≤ j ∧ j < w'.heap.size) := by
  have hts := txt_size q
  have hg0 : (w.alloc (.cells #[.slice none 0 0, .int .i64 0, .int .i64 0] 47)).heap[w.heap.size]? = some (.cells #[.slice none 0 0, .int .i64 0, .int .i64 0] 47 (0, 0)) := heap_alloc_new _ _
  have hi : (Try.prog.info? 47).map (·.size) = some 3 := by kernel_rfl
  have HTS := Lib.hid hts
  have hu := Try.underlying47
  by_cases hlen : q.length < 5
  · have hz : ((txt q).size : Int) < 5 := by omega
    have HN := Lib.hid (ReadP.short (q := q) (N := N) (by unfold rd; rw [if_pos hlen]))
    clear hts
    generalize txt q = T at *
    go_enter Try.func26, Try.ntmps26
    go_wp2_with (refine wpList_store_row rfl 47 _ _ rfl w.heap.size #[.slice none 0 0, .int .i64 0, .int .i64 3] rfl rfl 47 _ hg0 hi rfl (one_gotD _ _ _ _ _) ?_)
    refine bodyPost_ret (v := .agg #[.slice none 0 0, .int .i64 0, .int .i64 3]) (results_cell_row rfl _ _ w.heap.size 47 _ (0, 0) _ rfl (setRow_heap _ _ _ _ _ _ hg0) hu rfl hi) rfl ⟨.slice none 0 0, [], 0, 3, rfl, IsInts.nil _, below_setRow ((Below.refl _ _).alloc (Nat.le_refl _) _) (Nat.le_refl _) _, HN.out, fun j hj => absurd hj (by simp [Value.ownBlock])⟩
  · have h5 : 5 ≤ q.length := by omega
    have hz : ¬ ((txt q).size : Int) < 5 := by omega
    have htk : Hid ((txt q).extract 0 5 = txt (q.take 5)) := Lib.hid (txt_take q 5 h5)
    have hzb : (txt q).size ≤ 1000000 := by omega
    have h5z : (5 : Int) ≤ ((txt q).size : Int) := by omega
    have hnl : num (q.take 5) < 32 := by
      have := num_lt (q.take 5)
      rw [List.length_take, Nat.min_eq_left h5] at this
      exact this
    have HNUM := Lib.hid (fun W => number_any (q.take 5) W (by rw [List.length_take]; omega))
    have HRD : Hid (rd q N = if (num (q.take 5) : Int) < 1 ∨ 20 < (num (q.take 5) : Int) then .table else (run (q.drop 5) N (num (q.take 5))).add [] 5) := Lib.hid (by unfold rd; rw [if_neg hlen])
    obtain ⟨v, hv⟩ : ∃ v, num (q.take 5) = v := ⟨_, rfl⟩
    rw [hv] at hnl HNUM HRD
    clear hv
    have HTT := Lib.hid (txt_testD q)
    have hzq : ((txt q).size : Int) ≤ 1000000 := by omega
    have HB0 : Hid (Below w.heap.size w (w.alloc (.cells #[.slice none 0 0, .int .i64 0, .int .i64 0] 47))) := Lib.hid ((Below.refl _ _).alloc (Nat.le_refl _) _)
    clear hts
    by_cases hv1 : (v : Int) < 1
    · have HN := Lib.hid (ReadP.table (q := q) (N := N) (by rw [HRD.out, if_pos (Or.inl hv1)]))
      go_enter Try.func26, Try.ntmps26
      go_wp2_with fail
      rw [htk.out]
      refine (HNUM.out _).mono ?_
      rintro e w' ⟨rfl, rfl⟩
      go_wp2_with (refine wpList_store_row rfl 47 _ _ rfl w.heap.size #[.slice none 0 0, .int .i64 0, .int .i64 22] rfl rfl 47 _ hg0 hi rfl (one_gotD _ _ _ _ _) ?_)
      refine bodyPost_ret (v := .agg #[.slice none 0 0, .int .i64 0, .int .i64 22]) (results_cell_row rfl _ _ w.heap.size 47 _ (0, 0) _ rfl (setRow_heap _ _ _ _ _ _ hg0) hu rfl hi) rfl ⟨.slice none 0 0, [], 0, 22, rfl, IsInts.nil _, below_setRow ((Below.refl _ _).alloc (Nat.le_refl _) _) (Nat.le_refl _) _, HN.out, fun j hj => absurd hj (by simp [Value.ownBlock])⟩
    by_cases hv2 : (20 : Int) < (v : Int)
    · have HN := Lib.hid (ReadP.table (q := q) (N := N) (by rw [HRD.out, if_pos (Or.inr hv2)]))
      go_enter Try.func26, Try.ntmps26
      go_wp2_with fail
      rw [htk.out]
      refine (HNUM.out _).mono ?_
      rintro e w' ⟨rfl, rfl⟩
      go_wp2_with (refine wpList_store_row rfl 47 _ _ rfl w.heap.size #[.slice none 0 0, .int .i64 0, .int .i64 22] rfl rfl 47 _ hg0 hi rfl (one_gotD _ _ _ _ _) ?_)
      refine bodyPost_ret (v := .agg #[.slice none 0 0, .int .i64 0, .int .i64 22]) (results_cell_row rfl _ _ w.heap.size 47 _ (0, 0) _ rfl (setRow_heap _ _ _ _ _ _ hg0) hu rfl hi) rfl ⟨.slice none 0 0, [], 0, 22, rfl, IsInts.nil _, below_setRow ((Below.refl _ _).alloc (Nat.le_refl _) _) (Nat.le_refl _) _, HN.out, fun j hj => absurd hj (by simp [Value.ownBlock])⟩
    have HI0 : Hid (RdInv w (w.alloc (.cells #[.slice none 0 0, .int .i64 0, .int .i64 0] 47)) q N 5 (v : Int) (.slice none 0 0) []) := Lib.hid ⟨by rw [HRD.out, if_neg (by omega)]; rfl, OwnI.nil _ _, HB0.out, hg0⟩
    clear HB0 hg0
    have hv3 : 1 ≤ (v : Int) ∧ (v : Int) ≤ 20 := by omega
    go_enter Try.func26, Try.ntmps26
    go_wp2_with fail
    rw [htk.out]
    refine (HNUM.out _).mono ?_
    rintro e w' ⟨rfl, rfl⟩
    go_wp2_with fail
    go_loopw [5, 6, 7] (fun vn vl vp wr => ∃ (now : Int) (ls : List Int) (p : Nat), vn = .int .i64 now ∧ 1 ≤ now ∧ now ≤ 20 ∧ vp = .int .i64 (p : Int) ∧ p ≤ q.length ∧ ls.length ≤ N ∧ RdInv w wr q N p now vl ls) (fun _ _ vp _ => q.length - (intOf vp).toNat)
    case atStart => exact ⟨(v : Int), [], 5, rfl, hv3.1, hv3.2, rfl, h5, Nat.zero_le _, HI0.out⟩
    case round =>
      clear HI0 HNUM htk hv1 hv2 hv3
      rename_i vl _
      obtain ⟨now, ls, p, rfl, hn1, hn20, rfl, hp, hls, hI⟩ := hrel
      obtain ⟨hI1, hO, hB, hg⟩ := hI
      have HI := Lib.hid hI1
      have HO := Lib.hid hO
      have HB := Lib.hid hB
      obtain ⟨al, cl, rfl⟩ := hO.slice
      have hlw : w.heap.size < wr.heap.size := (Array.getElem?_eq_some_iff.1 hg).1
      clear hI1 hO hB
      by_cases hdone : ls.length < N
      · have hdi : (ls.length : Int) < (N : Int) := by omega
        obtain ⟨M, hM⟩ : ∃ M, N - ls.length = M + 1 := ⟨N - ls.length - 1, by omega⟩
        have HM := Lib.hid hM
        rw [hM] at HI
        clear hM
        by_cases hend : p < q.length
        · have hpz : p < (txt q).size := by have := HTS.out; omega
          have hpi : (p : Int) < ((txt q).size : Int) := by omega
          have hne : ((p : Int) == ((txt q).size : Int)) = false := by rw [beq_eq_false_iff_ne]; omega
          have hgk := HTT.out p hend hpz
          have hdc := drop_consB q p hend
          have hp1 : (p : Int) ≤ 1000000 := by omega
          by_cases hb : q.getD p false = true
          · rw [hb] at hgk hdc
            have hgk2 : ((txt q)[p].toNat : Int) = 49 := hgk
            rw [hdc] at HI
            clear hgk hdc hb
            by_cases hend2 : p + 1 < q.length
            · have hp1z : p + 1 < (txt q).size := by have := HTS.out; omega
              have hp1i : (p : Int) + 1 < ((txt q).size : Int) := by omega
              have hne2 : ((p : Int) + 1 == ((txt q).size : Int)) = false := by rw [beq_eq_false_iff_ne]; omega
              obtain ⟨m, hm⟩ : ∃ m, p + 1 = m := ⟨_, rfl⟩
              have hmi : (p : Int) + 1 = (m : Int) := by omega
              have hmz : m < (txt q).size := by omega
              have hmzi : (m : Int) < ((txt q).size : Int) := by omega
              have hmw : IntKind.i64.wrap (m : Int) = (m : Int) := IntWalk.i64_in _ (by omega)
              have hPM : Hid (p + 2 = m + 1) := Lib.hid (by omega)
              have hmb : m < q.length := by omega
              have hgk3 := HTT.out m hmb hmz
              rw [hm, drop_consB q m hmb] at HI
              rw [hmi] at hne2
              obtain ⟨b, hbb⟩ : ∃ b, q.getD m false = b := ⟨_, rfl⟩
              rw [hbb] at HI hgk3
              clear hbb hp1z hp1i hm
              cases b with
              | false =>
                have hgk4 : ((txt q)[m].toNat : Int) = 48 := hgk3
                clear hgk3
                by_cases hbad : (20 : Int) < now + 1
                · have HN := Lib.hid (ReadP.table (q := q) (N := N) (by rw [HI.out, run_bad false _ _ now (Or.inr hbad)]; rfl))
                  go_wp2_with (refine wpList_store_row rfl 47 _ _ rfl w.heap.size #[.slice none 0 0, .int .i64 0, .int .i64 22] rfl rfl 47 _ hg hi rfl (one_gotD _ _ _ _ _) ?_)
                  refine bodyPost_ret (v := .agg #[.slice none 0 0, .int .i64 0, .int .i64 22]) (results_cell_row rfl _ _ w.heap.size 47 _ (0, 0) _ rfl (setRow_heap _ _ _ _ _ _ hg) hu rfl hi) rfl ⟨.slice none 0 0, [], 0, 22, rfl, IsInts.nil _, below_setRow HB.out (Nat.le_refl _) _, HN.out, fun j hj => absurd hj (by simp [Value.ownBlock])⟩
                · have HI2 : Hid (rd q N = (run (q.drop (p + 2)) (N - ls.length) (now + 1)).add ls (p + 2)) := Lib.hid (by
                    rw [HI.out, run_move _ _ _ _ (by show ¬ (now + 1 < 1 ∨ 20 < now + 1); omega), add_add, List.append_nil, HM.out, hPM.out]
                    rfl)
                  have hb1 : ¬ now + 1 < 1 := by omega
                  go_wp2_with fail
                  go_roundw
                  case rel => exact ⟨now + 1, ls, p + 2, by go_num, by omega, by omega, by go_num, by omega, hls, HI2.out, HO.out, HB.out, hg⟩
                  case measure => simp [intOf]; omega
              | true =>
                have hgk4 : ((txt q)[m].toNat : Int) = 49 := hgk3
                clear hgk3
                by_cases hbad : now - 1 < 1
                · have HN := Lib.hid (ReadP.table (q := q) (N := N) (by rw [HI.out, run_bad true _ _ now (Or.inl hbad)]; rfl))
                  go_wp2_with (refine wpList_store_row rfl 47 _ _ rfl w.heap.size #[.slice none 0 0, .int .i64 0, .int .i64 22] rfl rfl 47 _ hg hi rfl (one_gotD _ _ _ _ _) ?_)
                  refine bodyPost_ret (v := .agg #[.slice none 0 0, .int .i64 0, .int .i64 22]) (results_cell_row rfl _ _ w.heap.size 47 _ (0, 0) _ rfl (setRow_heap _ _ _ _ _ _ hg) hu rfl hi) rfl ⟨.slice none 0 0, [], 0, 22, rfl, IsInts.nil _, below_setRow HB.out (Nat.le_refl _) _, HN.out, fun j hj => absurd hj (by simp [Value.ownBlock])⟩
                · have HI2 : Hid (rd q N = (run (q.drop (p + 2)) (N - ls.length) (now - 1)).add ls (p + 2)) := Lib.hid (by
                    rw [HI.out, run_move _ _ _ _ (by show ¬ (now - 1 < 1 ∨ 20 < now - 1); omega), add_add, List.append_nil, HM.out, hPM.out]
                    rfl)
                  have hb1 : ¬ (20 : Int) < now - 1 := by omega
                  go_wp2_with fail
                  go_roundw
                  case rel => exact ⟨now - 1, ls, p + 2, by go_num, by omega, by omega, by go_num, by omega, hls, HI2.out, HO.out, HB.out, hg⟩
                  case measure => simp [intOf]; omega
            · have hne2 : ((p : Int) + 1 == ((txt q).size : Int)) = true := by rw [beq_iff_eq]; have := HTS.out; omega
              have hdn : q.drop (p + 1) = [] := List.drop_of_length_le (by omega)
              have HN := Lib.hid (ReadP.short (q := q) (N := N) (by rw [HI.out, hdn]; rfl))
              clear hdn
              go_wp2_with (refine wpList_store_row rfl 47 _ _ rfl w.heap.size #[.slice none 0 0, .int .i64 0, .int .i64 3] rfl rfl 47 _ hg hi rfl (one_gotD _ _ _ _ _) ?_)
              refine bodyPost_ret (v := .agg #[.slice none 0 0, .int .i64 0, .int .i64 3]) (results_cell_row rfl _ _ w.heap.size 47 _ (0, 0) _ rfl (setRow_heap _ _ _ _ _ _ hg) hu rfl hi) rfl ⟨.slice none 0 0, [], 0, 3, rfl, IsInts.nil _, below_setRow HB.out (Nat.le_refl _) _, HN.out, fun j hj => absurd hj (by simp [Value.ownBlock])⟩
          · have hbf : q.getD p false = false := by simpa using hb
            rw [hbf] at hgk hdc
            have hgk2 : ((txt q)[p].toNat : Int) = 48 := hgk
            have HI2 : Hid (rd q N = (run (q.drop (p + 1)) (N - (ls ++ [now]).length) now).add (ls ++ [now]) (p + 1)) := Lib.hid (by
              rw [HI.out, hdc, run_same, add_add, List.length_append, show N - (ls.length + [now].length) = M from by have := HM.out; show N - (ls.length + 1) = M; omega])
            have HLN : Hid ((ls ++ [now]).length ≤ N) := Lib.hid (by rw [List.length_append]; exact hdone)
            clear hgk hdc hb hbf HI
            have hl258 : ls.length + 1 ≤ 17592186044416 := by omega
            go_wp2_with (at_builtin; refine push_int wr rfl _ _ rfl (w.heap.size + 1) _ ls now HO.out rfl rfl hl258 (by omega) ?_)
            intro v3 w3 hO3 hB3
            have HO3 := Lib.hid hO3
            have HB3 := Lib.hid (HB.out.trans (hB3.mono (Nat.le_succ _)))
            have hg3 := (hB3.block w.heap.size (Nat.lt_succ_self _)).trans hg
            clear hO3 hB3
            go_wp2_with fail
            go_roundw
            case rel => exact ⟨now, ls ++ [now], p + 1, rfl, hn1, hn20, by go_num, by omega, HLN.out, HI2.out, HO3.out, HB3.out, hg3⟩
            case measure => simp [intOf]; omega
        · have hpe : p = q.length := by omega
          have hne : ((p : Int) == ((txt q).size : Int)) = true := by rw [beq_iff_eq]; have := HTS.out; omega
          have hdn : q.drop p = [] := List.drop_of_length_le (by omega)
          have HN := Lib.hid (ReadP.short (q := q) (N := N) (by rw [HI.out, hdn]; rfl))
          clear hdn hpe
          go_wp2_with (refine wpList_store_row rfl 47 _ _ rfl w.heap.size #[.slice none 0 0, .int .i64 0, .int .i64 3] rfl rfl 47 _ hg hi rfl (one_gotD _ _ _ _ _) ?_)
          refine bodyPost_ret (v := .agg #[.slice none 0 0, .int .i64 0, .int .i64 3]) (results_cell_row rfl _ _ w.heap.size 47 _ (0, 0) _ rfl (setRow_heap _ _ _ _ _ _ hg) hu rfl hi) rfl ⟨.slice none 0 0, [], 0, 3, rfl, IsInts.nil _, below_setRow HB.out (Nat.le_refl _) _, HN.out, fun j hj => absurd hj (by simp [Value.ownBlock])⟩
      · have hdi : ¬ (ls.length : Int) < (N : Int) := by omega
        have hlN : N - ls.length = 0 := by omega
        have HN : Hid (ReadP q N ls p 0) := Lib.hid (ReadP.ok (by rw [HI.out, hlN, run_zero]; show Res.ok (ls ++ []) (p + 0) = _; rw [List.append_nil]; rfl))
        clear hlN
        go_wp2_with (refine wpList_store_row rfl 47 _ _ rfl w.heap.size #[.slice al ls.length cl, .int .i64 (p : Int), .int .i64 0] rfl rfl 47 _ hg hi rfl (one_gotD _ _ _ _ _) ?_)
        refine bodyPost_ret (v := .agg #[.slice al ls.length cl, .int .i64 (p : Int), .int .i64 0]) (results_cell_row rfl _ _ w.heap.size 47 _ (0, 0) _ rfl (setRow_heap _ _ _ _ _ _ hg) hu rfl hi) rfl ⟨_, ls, p, 0, rfl, ?_, below_setRow HB.out (Nat.le_refl _) _, HN.out, fun j hj => by have h5 := HO.out.lt j hj; exact ⟨by omega, by rw [setRow_size]; exact h5.2⟩⟩
        exact (HO.out.setRow w.heap.size _ (Nat.lt_succ_self _)).ints
end Go.Proofs.Ytpjjchmbolopnaa

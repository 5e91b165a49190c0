/-
  MERGED by seg.py out of: CodMathE DelRefB CodRefC CodRefD PkRefB Build3 CodRefE CodRefF TabTab CodLawF Pieces CodLawG.
-/
import Derived.Test.YtojphcoghbiepaaGreatDoorCoSegI
import Derived.Deep.RegionHeld3
import Derived.Test.YtojphcoghbiepaaGreatDoorCards
import Derived.Test.YtojphcoghbiepaaGreatDoorTie
import Derived.LaidMore
import Derived.Stop.Joined
namespace Go.Proofs.YtojphcoghbiepaaGreatDoor
namespace CodM
open Go.RowKit BitM HufM CanM
set_option linter.unusedVariables false
theorem skip_zero (r : R14) : r.skip 0 = r := by
  cases r with
  | ok l n => show R14.ok l (0 + n) = _; rw [Nat.zero_add]
  | err e _ => rfl
/-- What is known behind gs, of n tables, and a bits. -/
def RtT (Q : List Bool) (N n a : Nat) (gs : List (List Int)) : Prop :=
  gs.length ≤ n ∧ Whs N gs ∧ ∀ ps most, rdT ps N most n Q [] = (rdT ps N most (n - gs.length) (Q.drop a) gs).skip a
theorem RtT.start (Q : List Bool) (N n : Nat) : RtT Q N n 0 [] := ⟨Nat.zero_le _, fun g hg => absurd hg (by simp), fun ps most => by rw [skip_zero]; rfl⟩
/-- What the tables are, if they are read: the error, and where the place is then. -/
def TabP (Q : List Bool) (N n : Nat) (gs : List (List Int)) (a : Nat) (er : Int) : Prop :=
  (er = 0 ∧ gs.length = n ∧ Whs N gs ∧ ∀ ps most, rdT ps N most n Q [] = (rdS gs ps N most ((Q.drop a).length + 1) (Q.drop a) []).skip a) ∨ (er ≠ 0 ∧ ∀ ps most, rdT ps N most n Q [] = .err er [])
theorem RtT.all {Q : List Bool} {N n a : Nat} {gs : List (List Int)} (h : RtT Q N n a gs) (hn : gs.length = n) : TabP Q N n gs a 0 :=
  Or.inl ⟨rfl, hn, h.2.1, fun ps most => by rw [h.2.2, hn, Nat.sub_self, rdT]⟩
theorem RtT.step {Q : List Bool} {N n a : Nat} {gs : List (List Int)} (h : RtT Q N n a gs) (hn : gs.length < n) :
    (DelM.rd (Q.drop a) N = .short → ∀ gs' a', TabP Q N n gs' a' 3) ∧ (DelM.rd (Q.drop a) N = .table → ∀ gs' a', TabP Q N n gs' a' 22) ∧
    (∀ ls k, DelM.rd (Q.drop a) N = .ok ls k → ls.length = N ∧ (¬ WholeP ls → ∀ gs' a', TabP Q N n gs' a' 22) ∧ (WholeP ls → RtT Q N n (a + k) (gs ++ [ls]))) := by
  obtain ⟨h1, h2, h3⟩ := h
  obtain ⟨m, hm⟩ : ∃ m, n - gs.length = m + 1 := ⟨n - gs.length - 1, by omega⟩
  rw [hm] at h3
  refine ⟨fun hr gs' a' => Or.inr ⟨by decide, fun ps most => by rw [h3, rdT_short hr]; rfl⟩, fun hr gs' a' => Or.inr ⟨by decide, fun ps most => by rw [h3, rdT_table hr]; rfl⟩, fun ls k hr => ?_⟩
  have hl := DelM.rd_len hr
  refine ⟨hl, fun hw gs' a' => Or.inr ⟨by decide, fun ps most => by rw [h3, rdT_not hr hw]; rfl⟩, fun hw => ⟨by rw [List.length_append]; simp; omega, fun g hg => ?_, fun ps most => ?_⟩⟩
  · rcases List.mem_append.1 hg with h | h
    · exact h2 g h
    · rw [List.mem_singleton] at h
      subst h
      exact ⟨hl, hw⟩
  · rw [h3, rdT_ok hr hw, skip_skip, List.drop_drop, List.length_append, show n - (gs.length + [ls].length) = m by simp; omega]
/-! ### What a row tells, as far as it goes; how much is kept then -/
def lst : R14 → List Int
  | .ok l _ => l
  | .err _ l => l
noncomputable def heldC (Q : List Bool) (N : Nat) : Nat := match PkM.rd Q with
  | .short => 0
  | .bad _ => 0
  | .ok ps _ => ps.length + num (Q.take 3) * N
theorem heldC_hd {Q : List Bool} {ps : List Nat} {t N : Nat} (h : Hd Q ps t) : heldC Q N = ps.length + t * N := by
  obtain ⟨⟨k, hk⟩, ht, _⟩ := h
  unfold heldC
  rw [hk]
  simp only [ht]
end CodM
end Go.Proofs.YtojphcoghbiepaaGreatDoor
namespace Go.Proofs.YtojphcoghbiepaaGreatDoor
open Go.RowKit DelM BitM
set_option linter.unusedVariables false
theorem one_gotD (a : Option Addr) (m c : Nat) (x y : Int) : (#[Value.slice a m c, .int .i64 x, .int .i64 y] : Array Value).all (·.oneCell') = true := by simp [Value.oneCell']
/-- What is told of bits. -/
def ReadP (q : List Bool) (N : Nat) (ls : List Int) (k : Nat) (err : Int) : Prop :=
  match rd q N with
  | .short => ls = [] ∧ k = 0 ∧ err = 3
  | .table => ls = [] ∧ k = 0 ∧ err = 22
  | .ok l n => ls = l ∧ k = n ∧ err = 0
theorem ReadP.short {q : List Bool} {N : Nat} (h : rd q N = .short) : ReadP q N [] 0 3 := by unfold ReadP; rw [h]; exact ⟨rfl, rfl, rfl⟩
theorem ReadP.table {q : List Bool} {N : Nat} (h : rd q N = .table) : ReadP q N [] 0 22 := by unfold ReadP; rw [h]; exact ⟨rfl, rfl, rfl⟩
theorem ReadP.ok {q : List Bool} {N : Nat} {l : List Int} {n : Nat} (h : rd q N = .ok l n) : ReadP q N l n 0 := by unfold ReadP; rw [h]; exact ⟨rfl, rfl, rfl⟩
/-- What the loop of the document's Read knows. -/
def RdInv (w wr : World) (q : List Bool) (N p : Nat) (now : Int) (u : Value) (ls : List Int) : Prop :=
  rd q N = (run (q.drop p) (N - ls.length) now).add ls p ∧ OwnI wr (w.heap.size + 1) u ls ∧ Below w.heap.size w wr ∧ wr.heap[w.heap.size]? = some (.cells #[.slice none 0 0, .int .i64 0, .int .i64 0] 156 (0, 0))
set_option maxRecDepth 100000 in
set_option maxHeartbeats 4000000 in
theorem rread11_any (q : List Bool) (N : Nat) (w : World) (hq : q.length ≤ 1000000) (hN : N ≤ 258) :
    Calls Tryz.prog 106 #[.string (txt q), .int .i64 (N : Int)] w fun e w' => ∃ (u : Value) (ls : List Int) (k : Nat) (err : Int), e = .returned (.agg #[u, .int .i64 (k : Int), .int .i64 err]) ∧ IsInts w' u ls ∧ Below w.heap.size w w' ∧ ReadP q N ls k err ∧ (∀ j, u.ownBlock = some j → w.heap.size ≤ j ∧ j < w'.heap.size) := by
  have hts := txt_size q
  have hg0 : (w.alloc (.cells #[.slice none 0 0, .int .i64 0, .int .i64 0] 156)).heap[w.heap.size]? = some (.cells #[.slice none 0 0, .int .i64 0, .int .i64 0] 156 (0, 0)) := heap_alloc_new _ _
  have hi : (Tryz.prog.info? 156).map (·.size) = some 3 := by kernel_rfl
  have HTS := Lib.hid hts
  have hu := Tryz.underlying156
  by_cases hlen : q.length < 5
  · have hz : ((txt q).size : Int) < 5 := by omega
    have HN := Lib.hid (ReadP.short (q := q) (N := N) (by unfold rd; rw [if_pos hlen]))
    clear hts
    generalize txt q = T at *
    go_enter Tryz.func106, Tryz.ntmps106
    go_wp2_with (refine wpList_store_row rfl 156 _ _ rfl w.heap.size #[.slice none 0 0, .int .i64 0, .int .i64 3] rfl rfl 156 _ hg0 hi rfl (one_gotD _ _ _ _ _) ?_)
    refine bodyPost_ret (v := .agg #[.slice none 0 0, .int .i64 0, .int .i64 3]) (results_cell_row rfl _ _ w.heap.size 156 _ (0, 0) _ rfl (setRow_heap _ _ _ _ _ _ hg0) hu rfl hi) rfl ⟨.slice none 0 0, [], 0, 3, rfl, IsInts.nil _, below_setRow ((Below.refl _ _).alloc (Nat.le_refl _) _) (Nat.le_refl _) _, HN.out, fun j hj => absurd hj (by simp [Value.ownBlock])⟩
  · have h5 : 5 ≤ q.length := by omega
    have hz : ¬ ((txt q).size : Int) < 5 := by omega
    have htk : Hid ((txt q).extract 0 5 = txt (q.take 5)) := Lib.hid (txt_take q 5 h5)
    have hzb : (txt q).size ≤ 1000000 := by omega
    have h5z : (5 : Int) ≤ ((txt q).size : Int) := by omega
    have hnl : num (q.take 5) < 32 := by
      have := num_lt (q.take 5)
      rw [List.length_take, Nat.min_eq_left h5] at this
      exact this
    have HNUM := Lib.hid (fun W => number_any (q.take 5) W (by rw [List.length_take]; omega))
    have HRD : Hid (rd q N = if (num (q.take 5) : Int) < 1 ∨ 20 < (num (q.take 5) : Int) then .table else (run (q.drop 5) N (num (q.take 5))).add [] 5) := Lib.hid (by unfold rd; rw [if_neg hlen])
    obtain ⟨v, hv⟩ : ∃ v, num (q.take 5) = v := ⟨_, rfl⟩
    rw [hv] at hnl HNUM HRD
    clear hv
    have HTT := Lib.hid (txt_testD q)
    have hzq : ((txt q).size : Int) ≤ 1000000 := by omega
    have HB0 : Hid (Below w.heap.size w (w.alloc (.cells #[.slice none 0 0, .int .i64 0, .int .i64 0] 156))) := Lib.hid ((Below.refl _ _).alloc (Nat.le_refl _) _)
    clear hts
    by_cases hv1 : (v : Int) < 1
    · have HN := Lib.hid (ReadP.table (q := q) (N := N) (by rw [HRD.out, if_pos (Or.inl hv1)]))
      go_enter Tryz.func106, Tryz.ntmps106
      go_wp2_with fail
      rw [htk.out]
      refine (HNUM.out _).mono ?_
      rintro e w' ⟨rfl, rfl⟩
      go_wp2_with (refine wpList_store_row rfl 156 _ _ rfl w.heap.size #[.slice none 0 0, .int .i64 0, .int .i64 22] rfl rfl 156 _ hg0 hi rfl (one_gotD _ _ _ _ _) ?_)
      refine bodyPost_ret (v := .agg #[.slice none 0 0, .int .i64 0, .int .i64 22]) (results_cell_row rfl _ _ w.heap.size 156 _ (0, 0) _ rfl (setRow_heap _ _ _ _ _ _ hg0) hu rfl hi) rfl ⟨.slice none 0 0, [], 0, 22, rfl, IsInts.nil _, below_setRow ((Below.refl _ _).alloc (Nat.le_refl _) _) (Nat.le_refl _) _, HN.out, fun j hj => absurd hj (by simp [Value.ownBlock])⟩
    by_cases hv2 : (20 : Int) < (v : Int)
    · have HN := Lib.hid (ReadP.table (q := q) (N := N) (by rw [HRD.out, if_pos (Or.inr hv2)]))
      go_enter Tryz.func106, Tryz.ntmps106
      go_wp2_with fail
      rw [htk.out]
      refine (HNUM.out _).mono ?_
      rintro e w' ⟨rfl, rfl⟩
      go_wp2_with (refine wpList_store_row rfl 156 _ _ rfl w.heap.size #[.slice none 0 0, .int .i64 0, .int .i64 22] rfl rfl 156 _ hg0 hi rfl (one_gotD _ _ _ _ _) ?_)
      refine bodyPost_ret (v := .agg #[.slice none 0 0, .int .i64 0, .int .i64 22]) (results_cell_row rfl _ _ w.heap.size 156 _ (0, 0) _ rfl (setRow_heap _ _ _ _ _ _ hg0) hu rfl hi) rfl ⟨.slice none 0 0, [], 0, 22, rfl, IsInts.nil _, below_setRow ((Below.refl _ _).alloc (Nat.le_refl _) _) (Nat.le_refl _) _, HN.out, fun j hj => absurd hj (by simp [Value.ownBlock])⟩
    have HI0 : Hid (RdInv w (w.alloc (.cells #[.slice none 0 0, .int .i64 0, .int .i64 0] 156)) q N 5 (v : Int) (.slice none 0 0) []) := Lib.hid ⟨by rw [HRD.out, if_neg (by omega)]; rfl, OwnI.nil _ _, HB0.out, hg0⟩
    clear HB0 hg0
    have hv3 : 1 ≤ (v : Int) ∧ (v : Int) ≤ 20 := by omega
    go_enter Tryz.func106, Tryz.ntmps106
    go_wp2_with fail
    rw [htk.out]
    refine (HNUM.out _).mono ?_
    rintro e w' ⟨rfl, rfl⟩
    go_wp2_with fail
    go_loopw [5, 6, 7] (fun vn vl vp wr => ∃ (now : Int) (ls : List Int) (p : Nat), vn = .int .i64 now ∧ 1 ≤ now ∧ now ≤ 20 ∧ vp = .int .i64 (p : Int) ∧ p ≤ q.length ∧ ls.length ≤ N ∧ RdInv w wr q N p now vl ls) (fun _ _ vp _ => q.length - (intOf vp).toNat)
    case atStart => exact ⟨(v : Int), [], 5, rfl, hv3.1, hv3.2, rfl, h5, Nat.zero_le _, HI0.out⟩
    case round =>
      clear HI0 HNUM htk hv1 hv2 hv3
      rename_i vl _
      obtain ⟨now, ls, p, rfl, hn1, hn20, rfl, hp, hls, hI⟩ := hrel
      obtain ⟨hI1, hO, hB, hg⟩ := hI
      have HI := Lib.hid hI1
      have HO := Lib.hid hO
      have HB := Lib.hid hB
      obtain ⟨al, cl, rfl⟩ := hO.slice
      have hlw : w.heap.size < wr.heap.size := (Array.getElem?_eq_some_iff.1 hg).1
      clear hI1 hO hB
      by_cases hdone : ls.length < N
      · have hdi : (ls.length : Int) < (N : Int) := by omega
        obtain ⟨M, hM⟩ : ∃ M, N - ls.length = M + 1 := ⟨N - ls.length - 1, by omega⟩
        have HM := Lib.hid hM
        rw [hM] at HI
        clear hM
        by_cases hend : p < q.length
        · have hpz : p < (txt q).size := by have := HTS.out; omega
          have hpi : (p : Int) < ((txt q).size : Int) := by omega
          have hne : ((p : Int) == ((txt q).size : Int)) = false := by rw [beq_eq_false_iff_ne]; omega
          have hgk := HTT.out p hend hpz
          have hdc := drop_consB q p hend
          have hp1 : (p : Int) ≤ 1000000 := by omega
          by_cases hb : q.getD p false = true
          · rw [hb] at hgk hdc
            have hgk2 : ((txt q)[p].toNat : Int) = 49 := hgk
            rw [hdc] at HI
            clear hgk hdc hb
            by_cases hend2 : p + 1 < q.length
            · have hp1z : p + 1 < (txt q).size := by have := HTS.out; omega
              have hp1i : (p : Int) + 1 < ((txt q).size : Int) := by omega
              have hne2 : ((p : Int) + 1 == ((txt q).size : Int)) = false := by rw [beq_eq_false_iff_ne]; omega
              obtain ⟨m, hm⟩ : ∃ m, p + 1 = m := ⟨_, rfl⟩
              have hmi : (p : Int) + 1 = (m : Int) := by omega
              have hmz : m < (txt q).size := by omega
              have hmzi : (m : Int) < ((txt q).size : Int) := by omega
              have hmw : IntKind.i64.wrap (m : Int) = (m : Int) := IntWalk.i64_in _ (by omega)
              have hPM : Hid (p + 2 = m + 1) := Lib.hid (by omega)
              have hmb : m < q.length := by omega
              have hgk3 := HTT.out m hmb hmz
              rw [hm, drop_consB q m hmb] at HI
              rw [hmi] at hne2
              obtain ⟨b, hbb⟩ : ∃ b, q.getD m false = b := ⟨_, rfl⟩
              rw [hbb] at HI hgk3
              clear hbb hp1z hp1i hm
              cases b with
              | false =>
                have hgk4 : ((txt q)[m].toNat : Int) = 48 := hgk3
                clear hgk3
                by_cases hbad : (20 : Int) < now + 1
                · have HN := Lib.hid (ReadP.table (q := q) (N := N) (by rw [HI.out, run_bad false _ _ now (Or.inr hbad)]; rfl))
                  go_wp2_with (refine wpList_store_row rfl 156 _ _ rfl w.heap.size #[.slice none 0 0, .int .i64 0, .int .i64 22] rfl rfl 156 _ hg hi rfl (one_gotD _ _ _ _ _) ?_)
                  refine bodyPost_ret (v := .agg #[.slice none 0 0, .int .i64 0, .int .i64 22]) (results_cell_row rfl _ _ w.heap.size 156 _ (0, 0) _ rfl (setRow_heap _ _ _ _ _ _ hg) hu rfl hi) rfl ⟨.slice none 0 0, [], 0, 22, rfl, IsInts.nil _, below_setRow HB.out (Nat.le_refl _) _, HN.out, fun j hj => absurd hj (by simp [Value.ownBlock])⟩
                · have HI2 : Hid (rd q N = (run (q.drop (p + 2)) (N - ls.length) (now + 1)).add ls (p + 2)) := Lib.hid (by
                    rw [HI.out, run_move _ _ _ _ (by show ¬ (now + 1 < 1 ∨ 20 < now + 1); omega), add_add, List.append_nil, HM.out, hPM.out]
                    rfl)
                  have hb1 : ¬ now + 1 < 1 := by omega
                  go_wp2_with fail
                  go_roundw
                  case rel => exact ⟨now + 1, ls, p + 2, by go_num, by omega, by omega, by go_num, by omega, hls, HI2.out, HO.out, HB.out, hg⟩
                  case measure => simp [intOf]; omega
              | true =>
                have hgk4 : ((txt q)[m].toNat : Int) = 49 := hgk3
                clear hgk3
                by_cases hbad : now - 1 < 1
                · have HN := Lib.hid (ReadP.table (q := q) (N := N) (by rw [HI.out, run_bad true _ _ now (Or.inl hbad)]; rfl))
                  go_wp2_with (refine wpList_store_row rfl 156 _ _ rfl w.heap.size #[.slice none 0 0, .int .i64 0, .int .i64 22] rfl rfl 156 _ hg hi rfl (one_gotD _ _ _ _ _) ?_)
                  refine bodyPost_ret (v := .agg #[.slice none 0 0, .int .i64 0, .int .i64 22]) (results_cell_row rfl _ _ w.heap.size 156 _ (0, 0) _ rfl (setRow_heap _ _ _ _ _ _ hg) hu rfl hi) rfl ⟨.slice none 0 0, [], 0, 22, rfl, IsInts.nil _, below_setRow HB.out (Nat.le_refl _) _, HN.out, fun j hj => absurd hj (by simp [Value.ownBlock])⟩
                · have HI2 : Hid (rd q N = (run (q.drop (p + 2)) (N - ls.length) (now - 1)).add ls (p + 2)) := Lib.hid (by
                    rw [HI.out, run_move _ _ _ _ (by show ¬ (now - 1 < 1 ∨ 20 < now - 1); omega), add_add, List.append_nil, HM.out, hPM.out]
                    rfl)
                  have hb1 : ¬ (20 : Int) < now - 1 := by omega
                  go_wp2_with fail
                  go_roundw
                  case rel => exact ⟨now - 1, ls, p + 2, by go_num, by omega, by omega, by go_num, by omega, hls, HI2.out, HO.out, HB.out, hg⟩
                  case measure => simp [intOf]; omega
            · have hne2 : ((p : Int) + 1 == ((txt q).size : Int)) = true := by rw [beq_iff_eq]; have := HTS.out; omega
              have hdn : q.drop (p + 1) = [] := List.drop_of_length_le (by omega)
              have HN := Lib.hid (ReadP.short (q := q) (N := N) (by rw [HI.out, hdn]; rfl))
              clear hdn
              go_wp2_with (refine wpList_store_row rfl 156 _ _ rfl w.heap.size #[.slice none 0 0, .int .i64 0, .int .i64 3] rfl rfl 156 _ hg hi rfl (one_gotD _ _ _ _ _) ?_)
              refine bodyPost_ret (v := .agg #[.slice none 0 0, .int .i64 0, .int .i64 3]) (results_cell_row rfl _ _ w.heap.size 156 _ (0, 0) _ rfl (setRow_heap _ _ _ _ _ _ hg) hu rfl hi) rfl ⟨.slice none 0 0, [], 0, 3, rfl, IsInts.nil _, below_setRow HB.out (Nat.le_refl _) _, HN.out, fun j hj => absurd hj (by simp [Value.ownBlock])⟩
          · have hbf : q.getD p false = false := by simpa using hb
            rw [hbf] at hgk hdc
            have hgk2 : ((txt q)[p].toNat : Int) = 48 := hgk
            have HI2 : Hid (rd q N = (run (q.drop (p + 1)) (N - (ls ++ [now]).length) now).add (ls ++ [now]) (p + 1)) := Lib.hid (by
              rw [HI.out, hdc, run_same, add_add, List.length_append, show N - (ls.length + [now].length) = M from by have := HM.out; show N - (ls.length + 1) = M; omega])
            have HLN : Hid ((ls ++ [now]).length ≤ N) := Lib.hid (by rw [List.length_append]; exact hdone)
            clear hgk hdc hb hbf HI
            have hl258 : ls.length + 1 ≤ 17592186044416 := by omega
            go_wp2_with (at_builtin; refine push_int wr rfl _ _ rfl (w.heap.size + 1) _ ls now HO.out rfl rfl hl258 (by omega) ?_)
            intro v3 w3 hO3 hB3
            have HO3 := Lib.hid hO3
            have HB3 := Lib.hid (HB.out.trans (hB3.mono (Nat.le_succ _)))
            have hg3 := (hB3.block w.heap.size (Nat.lt_succ_self _)).trans hg
            clear hO3 hB3
            go_wp2_with fail
            go_roundw
            case rel => exact ⟨now, ls ++ [now], p + 1, rfl, hn1, hn20, by go_num, by omega, HLN.out, HI2.out, HO3.out, HB3.out, hg3⟩
            case measure => simp [intOf]; omega
        · have hpe : p = q.length := by omega
          have hne : ((p : Int) == ((txt q).size : Int)) = true := by rw [beq_iff_eq]; have := HTS.out; omega
          have hdn : q.drop p = [] := List.drop_of_length_le (by omega)
          have HN := Lib.hid (ReadP.short (q := q) (N := N) (by rw [HI.out, hdn]; rfl))
          clear hdn hpe
          go_wp2_with (refine wpList_store_row rfl 156 _ _ rfl w.heap.size #[.slice none 0 0, .int .i64 0, .int .i64 3] rfl rfl 156 _ hg hi rfl (one_gotD _ _ _ _ _) ?_)
          refine bodyPost_ret (v := .agg #[.slice none 0 0, .int .i64 0, .int .i64 3]) (results_cell_row rfl _ _ w.heap.size 156 _ (0, 0) _ rfl (setRow_heap _ _ _ _ _ _ hg) hu rfl hi) rfl ⟨.slice none 0 0, [], 0, 3, rfl, IsInts.nil _, below_setRow HB.out (Nat.le_refl _) _, HN.out, fun j hj => absurd hj (by simp [Value.ownBlock])⟩
      · have hdi : ¬ (ls.length : Int) < (N : Int) := by omega
        have hlN : N - ls.length = 0 := by omega
        have HN : Hid (ReadP q N ls p 0) := Lib.hid (ReadP.ok (by rw [HI.out, hlN, run_zero]; show Res.ok (ls ++ []) (p + 0) = _; rw [List.append_nil]; rfl))
        clear hlN
        go_wp2_with (refine wpList_store_row rfl 156 _ _ rfl w.heap.size #[.slice al ls.length cl, .int .i64 (p : Int), .int .i64 0] rfl rfl 156 _ hg hi rfl (one_gotD _ _ _ _ _) ?_)
        refine bodyPost_ret (v := .agg #[.slice al ls.length cl, .int .i64 (p : Int), .int .i64 0]) (results_cell_row rfl _ _ w.heap.size 156 _ (0, 0) _ rfl (setRow_heap _ _ _ _ _ _ hg) hu rfl hi) rfl ⟨_, ls, p, 0, rfl, ?_, below_setRow HB.out (Nat.le_refl _) _, HN.out, fun j hj => by have h5 := HO.out.lt j hj; exact ⟨by omega, by rw [setRow_size]; exact h5.2⟩⟩
        exact (HO.out.setRow w.heap.size _ (Nat.lt_succ_self _)).ints
end Go.Proofs.YtojphcoghbiepaaGreatDoor
namespace Go.Proofs.YtojphcoghbiepaaGreatDoor
open Go.RowKit BitM HufM CanM CodM TabM FreqM
set_option linter.unusedVariables false
set_option maxHeartbeats 400000 in
theorem step_push_ss {ops : Array Oper} {o : Oper} {a : Act} {K : Act → World → Prop} {Q : Exit → Act → World → Prop} {E : Prop} (W : World) (hgd : o.guard = none) (s x : Operand)
    (ho : o.op = .call { callee := .builtin .append, args := #[s, x], argTypes := #[89, 89] })
    (base N : Nat) (v : Value) (gs : List (List Int)) (ls : List Int) (cb : Nat) (hown : SCodes W base N v gs) (hrow : RowS W cb N (fun j => txt (code ls j))) (hcb : base ≤ cb) (hcv : v.ownBlock ≠ some cb) (hs : a.eval s = v) (hx : a.eval x = .slice (some ⟨W.heap.size, 0, none⟩) 1 1)
    (hlen : gs.length + 1 ≤ 1000000)
    (h : ∀ v' w', SCodes w' base N v' (gs ++ [ls]) → Below base W w' → (∀ k, v'.ownBlock = some k → base ≤ k) → K (a.put o.dst v') w') :
    if Region.wanted o (yielded ops a.tmps) = true then Oper.wp Tryz.prog o a (W.alloc (.cells #[.slice (some ⟨cb, 0, none⟩) N N] 93)) K Q else E := by
  obtain ⟨bs, h1, h2, h3, h4⟩ := hown
  obtain ⟨i0, hi, hz0, hz1, hz2⟩ := info_parts info_ss
  refine step_append_own' hgd s x 89 ho base 93 i0 (.slice none 0 0) 1 24 Tryz.underlying89 hi hz0 hz1 hz2 rfl (by decide) v bs.length (bs.map (rowV N)) hs (World.ownsRow.alloc h1 _) ⟨W.heap.size, 0, none⟩ 1 1 [rowV N cb] hx rfl ?_ ?_ ?_ ?_ ?_ ?_
  · exact news_new _ _ _ _ rfl
  · intro u hu; simp at hu; subst hu; rfl
  · unfold maxLen; omega
  · omega
  · simp; omega
  · intro v' w' hown' hg hv
    have hBW : Below base W w' := Below.grown ((Below.refl base W).alloc h3 _) hg (by simp; omega) (fun j hj => (World.ownsRow.lt h1 j hj).1)
    have keep : ∀ k, k < W.heap.size → v.ownBlock ≠ some k → w'.heap[k]? = W.heap[k]? := fun k hk hne => (hg.block k (by simp; omega) (fun e => hne e.symm)).trans (alloc_old hk)
    have hvv : ∀ k, v'.ownBlock = some k → v.ownBlock = some k ∨ W.heap.size ≤ k := fun k hk => (hv k hk).imp id (fun h => by simp at h; omega)
    have hT : Touch (fun j => v.ownBlock = some j) W w' := ⟨hBW.os, hBW.tape, hBW.output, hBW.size, fun j hj hn => keep j hj hn⟩
    refine h v' w' ⟨bs ++ [cb], ?_, by rw [List.length_append, List.length_append, h2]; rfl, Nat.le_trans h3 hBW.size, fun i hi2 => ?_⟩ hBW (fun k hk => (World.ownsRow.lt hown' k hk).1)
    · rw [List.length_append, List.map_append]
      exact hown'
    · rw [List.length_append] at hi2
      have hi3 : i < gs.length + 1 := hi2
      by_cases h5 : i < gs.length
      · rw [getD_app_l bs cb 0 (by omega), getD_app_l gs ls [] h5]
        obtain ⟨a1, a2, a3⟩ := h4 i h5
        exact ⟨a1.other hT a3, a2, fun e => by
          rcases hvv _ e with e2 | e2
          · exact a3 e2
          · have := a1.lt; omega⟩
      · rw [getD_app_r bs cb 0 (by omega), getD_app_r gs ls [] (by omega)]
        exact ⟨hrow.other hT hcv, hcb, fun e => by
          rcases hvv _ e with e2 | e2
          · exact hcv e2
          · have := hrow.lt; omega⟩
/-! ### What readTables keeps -/
theorem info_tb14 : (Tryz.prog.info? 91).map (·.size) = some 3 := by kernel_rfl
theorem tb_all (a : Option Addr) (m c : Nat) (x y : Int) : (#[Value.slice a m c, .int .i64 x, .int .i64 y] : Array Value).all (·.oneCell') = true := by simp [Value.oneCell']
set_option maxRecDepth 100000 in
theorem built_tb (a : Option Addr) (m c : Nat) (x : Int) : Tryz.prog.built 91 [(0, .slice a m c), (2, .int .i64 x)] = some #[.slice a m c, .int .i64 0, .int .i64 x] := by kernel_rfl
set_option maxRecDepth 100000 in
theorem built_tb0 : Tryz.prog.built 91 [] = some #[.slice none 0 0, .int .i64 0, .int .i64 0] := by kernel_rfl
/-- Behind k tables: the box of the answer, the box of what was read. -/
def RdTs (w wr : World) (Q : List Bool) (N n a : Nat) (vc : Value) (gs : List (List Int)) : Prop :=
  RtT Q N n a gs ∧ a ≤ Q.length ∧ SCodes wr (w.heap.size + 2) N vc gs ∧ Below w.heap.size w wr ∧
  wr.heap[w.heap.size]? = some (.cells #[.slice none 0 0, .int .i64 0, .int .i64 0] 91 (0, 0)) ∧ wr.heap[w.heap.size + 1]? = some (.cells #[vc, .int .i64 (a : Int), .int .i64 0] 91 (0, 0))
end Go.Proofs.YtojphcoghbiepaaGreatDoor
namespace Go.Proofs.YtojphcoghbiepaaGreatDoor
open Go.RowKit BitM HufM CanM CodM TabM FreqM
set_option linter.unusedVariables false
theorem SCodes.touch {w w' : World} {base N : Nat} {v : Value} {gs : List (List Int)} (h : SCodes w base N v gs) {S : Nat → Prop} (ht : Touch S w w') (hS : ∀ k, S k → k < base) : SCodes w' base N v gs := by
  obtain ⟨bs, h1, h2, h3, h4⟩ := h
  exact ⟨bs, ownsRow_other h1 (fun k hk => ht.block k (World.ownsRow.lt h1 k hk).2 (fun e => by have := hS k e; have := (World.ownsRow.lt h1 k hk).1; omega)), h2, Nat.le_trans h3 ht.size, fun i hi => ⟨(h4 i hi).1.other ht (fun e => by have := hS _ e; have := (h4 i hi).2.1; omega), (h4 i hi).2⟩⟩
theorem touch_row (b : Nat) (w : World) (cs : Array Value) : Touch (· = b) w (w.setRow b cs) := ⟨rfl, rfl, rfl, by simp [World.setRow], fun j hj hn => setRow_other _ _ j _ (fun e => hn (by omega))⟩
theorem drun_le : ∀ (q : List Bool) (m : Nat) (now : Int) (l : List Int) (n : Nat), DelM.run q m now = .ok l n → n ≤ q.length
  | q, 0, now, l, n, h => by
    rw [DelM.run_zero] at h
    cases h
    exact Nat.zero_le _
  | [], m + 1, now, l, n, h => by cases h
  | [true], m + 1, now, l, n, h => by cases h
  | false :: t, m + 1, now, l, n, h => by
    rw [DelM.run_same] at h
    cases hr : DelM.run t m now with
    | short => rw [hr] at h; cases h
    | table => rw [hr] at h; cases h
    | ok a c =>
      rw [hr] at h
      have := drun_le t m now a c hr
      cases h
      rw [List.length_cons]
      omega
  | true :: b :: t, m + 1, now, l, n, h => by
    by_cases hb : DelM.nx now b < 1 ∨ 20 < DelM.nx now b
    · rw [DelM.run_bad _ _ _ _ hb] at h
      cases h
    · rw [DelM.run_move _ _ _ _ hb] at h
      cases hr : DelM.run t (m + 1) (DelM.nx now b) with
      | short => rw [hr] at h; cases h
      | table => rw [hr] at h; cases h
      | ok a c =>
        rw [hr] at h
        have := drun_le t (m + 1) (DelM.nx now b) a c hr
        cases h
        rw [List.length_cons, List.length_cons]
        omega
theorem drd_le {q : List Bool} {m : Nat} {l : List Int} {n : Nat} (h : DelM.rd q m = .ok l n) : n ≤ q.length := by
  unfold DelM.rd at h
  split at h
  · cases h
  · rename_i h5
    split at h
    · cases h
    · cases hr : DelM.run (q.drop 5) m (num (q.take 5)) with
      | short => rw [hr] at h; cases h
      | table => rw [hr] at h; cases h
      | ok a c =>
        rw [hr] at h
        have := drun_le _ _ _ _ _ hr
        rw [List.length_drop] at this
        cases h
        omega
theorem prun_mem {t : Nat} (ht : t ≤ 6) : ∀ (m : Nat) (q : List Bool) (o l : List Nat) (n : Nat), PkM.Ord t o → PkM.run t q m o = .ok l n → ∀ x ∈ l, x < t
  | 0, q, o, l, n, _, h => by
    rw [PkM.run] at h
    cases h
    intro x hx
    cases hx
  | m + 1, q, o, l, n, ho, h => by
    rw [PkM.run] at h
    split at h
    · cases h
    · rename_i hl
      split at h
      · cases h
      · cases hr : PkM.run t (q.drop (PkM.lead q + 1)) m (PkM.tch o (PkM.lead q)) with
        | short => rw [hr] at h; cases h
        | bad _ => rw [hr] at h; cases h
        | ok a c =>
          rw [hr] at h
          have ih := prun_mem ht m _ _ a c (ho.tch ht (by omega)) hr
          cases h
          intro x hx
          rcases List.mem_append.1 hx with h1 | h1
          · rw [List.mem_singleton] at h1
            subst h1
            have hlo : PkM.lead q < o.length := by rw [ho.1]; omega
            refine (ho.2 _).2 ?_
            rw [List.getD_eq_getElem?_getD, List.getElem?_eq_getElem hlo]
            exact List.mem_take_iff_getElem.2 ⟨PkM.lead q, by omega, rfl⟩
          · exact ih x h1
theorem prd_hd {Q : List Bool} {ps : List Nat} {k : Nat} (h : PkM.rd Q = .ok ps k) : Hd Q ps (num (Q.take 3)) ∧ k ≤ Q.length := by
  have h0 := h
  unfold PkM.rd at h
  split at h
  · cases h
  · rename_i h18
    split at h
    · cases h
    · rename_i hb
      cases hr : PkM.run (num (Q.take 3)) (Q.drop 18) (num ((Q.drop 3).take 15)) [0, 1, 2, 3, 4, 5] with
      | short => rw [hr] at h; cases h
      | bad _ => rw [hr] at h; cases h
      | ok a c =>
        rw [hr] at h
        have h1 := PkM.run_len _ _ _ _ _ hr
        rw [List.length_drop] at h1
        have h6 : num (Q.take 3) ≤ 6 := by omega
        have h2 := prun_mem h6 _ _ _ _ _ (PkM.Ord.start h6) hr
        have h3 := num_lt ((Q.drop 3).take 15)
        have h4 : ((Q.drop 3).take 15).length = 15 := by rw [List.length_take, List.length_drop]; omega
        rw [h4] at h3
        cases h
        refine ⟨⟨⟨_, h0⟩, rfl, h6, by omega, ?_, ?_, ?_⟩, by omega⟩
        · rw [List.nil_append]; omega
        · rw [List.nil_append]; omega
        · rw [List.nil_append]; exact h2
/-- What readTables tells. -/
def RtOut (Q : List Bool) (n N : Nat) (w : World) (e : Ending) (w' : World) : Prop :=
  ∃ (ad : Option Addr) (m c : Nat) (gs : List (List Int)) (a : Nat) (er : Int), e = .returned (.agg #[.slice ad m c, .int .i64 (a : Int), .int .i64 er]) ∧ TabP Q N n gs a er ∧ (er = 0 → a ≤ Q.length ∧ m = gs.length ∧ SCodes w' (w.heap.size + 2) N (.slice ad m c) gs) ∧ Below w.heap.size w w'
theorem RtOut.err {Q : List Bool} {n N : Nat} {w w' : World} {e : Ending} {ad : Option Addr} {m c : Nat} {er : Int} (he : e = .returned (.agg #[.slice ad m c, .int .i64 0, .int .i64 er])) (hT : ∀ gs a, TabP Q N n gs a er) (hn : er ≠ 0) (hb : Below w.heap.size w w') : RtOut Q n N w e w' :=
  ⟨ad, m, c, [], 0, er, he, hT _ _, fun h => absurd h hn, hb⟩
set_option maxRecDepth 100000 in
set_option maxHeartbeats 8000000 in
theorem rtables_any (Q : List Bool) (n N : Nat) (w : World) (hQ : Q.length ≤ 1000000) (h3 : 3 ≤ N) (h258 : N ≤ 258) (hn : n ≤ 6) :
    Calls Tryz.prog 56 #[.string (txt Q), .int .i64 (n : Int), .int .i64 (N : Int)] w (RtOut Q n N w) := by
  have hts := txt_size Q
  have HTS := Lib.hid hts
  have hi := info_tb14
  have hu := Tryz.underlying91
  have hz0 := built_tb0
  have HS0 : Hid (RdTs w ((w.alloc (.cells #[.slice none 0 0, .int .i64 0, .int .i64 0] 91)).alloc (.cells #[.slice none 0 0, .int .i64 0, .int .i64 0] 91)) Q N n 0 (.slice none 0 0) []) := Lib.hid (by
    have hs1 : (w.alloc (.cells #[.slice none 0 0, .int .i64 0, .int .i64 0] 91)).heap.size = w.heap.size + 1 := by simp
    have hb1 := (Below.refl w.heap.size w).alloc (Nat.le_refl _) (.cells #[.slice none 0 0, .int .i64 0, .int .i64 0] 91)
    have hg := heap_alloc_new (w.alloc (.cells #[.slice none 0 0, .int .i64 0, .int .i64 0] 91)) (.cells #[.slice none 0 0, .int .i64 0, .int .i64 0] 91)
    rw [hs1] at hg
    exact ⟨RtT.start _ _ _, Nat.zero_le _, SCodes.nil _ _ _ (by simp), hb1.alloc hb1.size _, (alloc_old (by omega)).trans (heap_alloc_new w _), hg⟩)
  obtain ⟨S, hS⟩ : ∃ S, txt Q = S := ⟨_, rfl⟩
  have HS := Lib.hid hS
  rw [hS] at hts ⊢
  clear hS
  go_enter Tryz.func56, Tryz.ntmps56
  go_wp2_with (refine wpList_build_is rfl 91 rfl _ hz0 ?_)
  go_loopw [11] (fun vk wr => ∃ (k a : Nat) (vc : Value) (gs : List (List Int)), vk = .int .i64 (k : Int) ∧ k ≤ n ∧ gs.length = k ∧ RdTs w wr Q N n a vc gs) (fun vk _ => n - (intOf vk).toNat)
  case atStart => exact ⟨0, 0, _, [], rfl, by omega, rfl, HS0.out⟩
  case round =>
    clear HS0
    obtain ⟨k, a, vc, gs, rfl, hk, hgl, hR, haq, hsc, hb, hbH, hbC⟩ := hrel
    have HRT := Lib.hid hR
    have HSC := Lib.hid hsc
    have HB := Lib.hid hb
    have HBH := Lib.hid hbH
    have HBC := Lib.hid hbC
    obtain ⟨aC, cC, rfl⟩ := hsc.slice
    obtain ⟨C, hC⟩ : ∃ C, w.heap.size + 1 = C := ⟨_, rfl⟩
    have HC := Lib.hid hC
    have c0 : wr.cell? ⟨w.heap.size + 1, 0, none⟩ = some (.slice aC gs.length cC) := by rw [cell_of_row _ _ _ _ _ _ hbC]; rfl
    have c1 : wr.cell? ⟨w.heap.size + 1, 1, none⟩ = some (.int .i64 (a : Int)) := by rw [cell_of_row _ _ _ _ _ _ hbC]; rfl
    have HGL := Lib.hid hgl
    rw [hgl] at c0 HBC HSC
    have hCw : Hid (w.heap.size + 1 < wr.heap.size) := Lib.hid (Array.getElem?_eq_some_iff.1 hbC).1
    clear hR hsc hb hbH hbC hC hgl
    by_cases hkn : k < n
    · have hki : (k : Int) < (n : Int) := by omega
      have HDR := Lib.hid (txt_drop Q a haq)
      rw [HS.out, hts] at HDR
      have ha0 : (0 : Int) ≤ (a : Int) := by omega
      have haz : (a : Int) ≤ (S.size : Int) := by omega
      have HRD := Lib.hid (rread11_any (Q.drop a) N wr (by rw [List.length_drop]; omega) h258)
      have HSTP := Lib.hid (HRT.out.step (by rw [HGL.out]; exact hkn))
      go_wp2_with fail
      rw [HDR.out]
      refine HRD.out.mono ?_
      rintro e w2 ⟨u, ls, k2, er, rfl, hi2, hb2, hrp, hown⟩
      obtain ⟨au, cu, rfl, hcu⟩ := hi2
      obtain ⟨M, hM⟩ : ∃ M, ls.length = M := ⟨_, rfl⟩
      have HM := Lib.hid hM
      have HI2 : Hid (IsInts w2 (.slice au ls.length cu) ls) := Lib.hid ⟨au, cu, rfl, hcu⟩
      rw [hM] at HI2 ⊢
      have hb3 := (Below.refl w2.heap.size w2).alloc (Nat.le_refl _) (.cells #[.slice au M cu, .int .i64 (k2 : Int), .int .i64 er] 156)
      have hg3 := heap_alloc_new w2 (.cells #[.slice au M cu, .int .i64 (k2 : Int), .int .i64 er] 156)
      have HI3 := Lib.hid (HI2.out.below hb3)
      have hb23 := hb2.trans (hb3.mono hb2.size)
      have HSC3 := Lib.hid (HSC.out.below hb23)
      have HB3 := Lib.hid (HB.out.trans (hb23.mono HB.out.size))
      have HBH3 := Lib.hid ((hb23.block _ (by have := hCw.out; omega)).trans HBH.out)
      have hbc3 := (hb23.block _ hCw.out).trans HBC.out
      have hG : Hid (w.heap.size + 1 < w2.heap.size) := Lib.hid (by have := hCw.out; have := hb2.size; omega)
      have HOW : Hid (∀ j, (Value.slice au M cu).ownBlock = some j → j ≠ w.heap.size + 1) := Lib.hid (fun j hj => by rw [← hM] at hj; have h1 := (hown j hj).1; have := hCw.out; omega)
      have hq := hrp
      unfold ReadP at hq
      clear hM hcu hb2 hb23 hb3 hrp hown HI2 HRD HSC HB HBH HBC c0 c1
      go_upto_region 5 with fail
      generalize w2.alloc (.cells #[.slice au M cu, .int .i64 (k2 : Int), .int .i64 er] 156) = W3 at *
      generalize w2.heap.size = G at *
      have d0 : W3.cell? ⟨w.heap.size + 1, 0, none⟩ = some (.slice aC k cC) := by rw [cell_of_row _ _ _ _ _ _ hbc3]; rfl
      have d1 : W3.cell? ⟨w.heap.size + 1, 1, none⟩ = some (.int .i64 (a : Int)) := by rw [cell_of_row _ _ _ _ _ _ hbc3]; rfl
      have f1 : W3.frozen? ⟨w.heap.size + 1, 1, none⟩ = false := frozen_of_row _ _ _ _ _ hbc3
      have e0 : W3.cell? ⟨G, 0, none⟩ = some (.slice au M cu) := by rw [cell_of_row _ _ _ _ _ _ hg3]; rfl
      have e1 : W3.cell? ⟨G, 1, none⟩ = some (.int .i64 (k2 : Int)) := by rw [cell_of_row _ _ _ _ _ _ hg3]; rfl
      have e2 : W3.cell? ⟨G, 2, none⟩ = some (.int .i64 er) := by rw [cell_of_row _ _ _ _ _ _ hg3]; rfl
      have HBC3 := Lib.hid hbc3
      have HG3 := Lib.hid hg3
      clear hbc3 hg3
      cases hrd : DelM.rd (Q.drop a) N with
      | short =>
        rw [hrd] at hq
        obtain ⟨rfl, rfl, rfl⟩ := hq
        have HT := Lib.hid (HSTP.out.1 hrd)
        have hbt := built_tb aC k cC 3
        clear hrd
        go_wp2_with (first | (refine wpList_build_two rfl 91 0 2 _ _ rfl _ _ rfl rfl _ hbt ?_) | (refine wpList_store_row rfl 91 _ _ rfl w.heap.size #[.slice aC k cC, .int .i64 0, .int .i64 3] rfl rfl 91 _ HBH3.out hi rfl (tb_all _ _ _ _ _) ?_))
        refine bodyPost_ret (v := .agg #[.slice aC k cC, .int .i64 0, .int .i64 3]) (results_cell_row rfl _ _ w.heap.size 91 _ (0, 0) _ rfl (setRow_heap _ _ _ _ _ _ HBH3.out) hu rfl hi) rfl (RtOut.err rfl HT.out (by decide) (below_setRow HB3.out (Nat.le_refl _) _))
      | table =>
        rw [hrd] at hq
        obtain ⟨rfl, rfl, rfl⟩ := hq
        have HT := Lib.hid (HSTP.out.2.1 hrd)
        have hbt := built_tb aC k cC 22
        clear hrd
        go_wp2_with (first | (refine wpList_build_two rfl 91 0 2 _ _ rfl _ _ rfl rfl _ hbt ?_) | (refine wpList_store_row rfl 91 _ _ rfl w.heap.size #[.slice aC k cC, .int .i64 0, .int .i64 22] rfl rfl 91 _ HBH3.out hi rfl (tb_all _ _ _ _ _) ?_))
        refine bodyPost_ret (v := .agg #[.slice aC k cC, .int .i64 0, .int .i64 22]) (results_cell_row rfl _ _ w.heap.size 91 _ (0, 0) _ rfl (setRow_heap _ _ _ _ _ _ HBH3.out) hu rfl hi) rfl (RtOut.err rfl HT.out (by decide) (below_setRow HB3.out (Nat.le_refl _) _))
      | ok ls' j =>
        rw [hrd] at hq
        obtain ⟨rfl, rfl, rfl⟩ := hq
        obtain ⟨hlN, hno, hyes⟩ := HSTP.out.2.2 ls k2 hrd
        have hMN : M = N := HM.out.symm.trans hlN
        have hk2 := drd_le hrd
        rw [List.length_drop] at hk2
        have hsum : (a : Int) + (k2 : Int) = ((a + k2 : Nat) : Int) := by omega
        obtain ⟨A2, hA2⟩ : ∃ A2, a + k2 = A2 := ⟨_, rfl⟩
        rw [hA2] at hsum
        have hAw : IntKind.i64.wrap (A2 : Int) = (A2 : Int) := IntWalk.i64_in _ (by omega)
        have HA2 := Lib.hid hA2
        have HK2 := Lib.hid hk2
        have HNO := Lib.hid hno
        have HYES := Lib.hid hyes
        obtain ⟨W4, hW4⟩ : ∃ W4, W3.setCell ⟨w.heap.size + 1, 1, none⟩ (.int .i64 (A2 : Int)) = W4 := ⟨_, rfl⟩
        have hT4 : Touch (· = w.heap.size + 1) W3 W4 := by rw [← hW4]; exact touch_cell (Touch.refl _ _)
        have hbc4 : W4.heap[w.heap.size + 1]? = some (.cells #[.slice aC k cC, .int .i64 (A2 : Int), .int .i64 0] 91 (0, 0)) := by rw [← hW4]; exact heap_setCell_same _ _ 1 _ _ _ HBC3.out
        have HI4 := Lib.hid (HI3.out.other hT4 (fun j hj e => HOW.out j hj e))
        have HSC4 := Lib.hid (HSC3.out.touch hT4 (fun j hj => by have : j = w.heap.size + 1 := hj; omega))
        have HB4 : Hid (Below w.heap.size w W4) := Lib.hid (HB3.out.trans (hT4.below (by have := HB3.out.size; omega) (fun i hi => by have : i = w.heap.size + 1 := hi; omega)))
        have HBH4 := Lib.hid ((hT4.block w.heap.size (Array.getElem?_eq_some_iff.1 HBH3.out).1 (by omega)).trans HBH3.out)
        have HBC4 := Lib.hid hbc4
        have hwt : w.heap.size + 1 < W4.heap.size := (Array.getElem?_eq_some_iff.1 hbc4).1
        have g4 : W4.heap[G]? = _ := (hT4.block G (Array.getElem?_eq_some_iff.1 HG3.out).1 (fun e => by have h1 := hG.out; have h2 : G = w.heap.size + 1 := e; omega)).trans HG3.out
        have k0 : W4.cell? ⟨w.heap.size + 1, 0, none⟩ = some (.slice aC k cC) := by rw [cell_of_row _ _ _ _ _ _ hbc4]; rfl
        have z0 : W4.frozen? ⟨w.heap.size + 1, 0, none⟩ = false := frozen_of_row _ _ _ _ _ hbc4
        have y0 : W4.cell? ⟨G, 0, none⟩ = some (.slice au M cu) := by rw [cell_of_row _ _ _ _ _ _ g4]; rfl
        have HM2 := Lib.hid hMN
        by_cases hwh : WholeP ls
        · have HWH := Lib.hid (rWhole_any (.slice au M cu) ls true W4 HI4.out (by rw [HM.out]; omega) ⟨fun _ => hwh, fun _ => rfl⟩)
          have HR2 : Hid (RtT Q N n A2 (gs ++ [ls])) := Lib.hid (by rw [← HA2.out]; exact HYES.out hwh)
          obtain ⟨cb, hcb⟩ : ∃ cb, W4.heap.size = cb := ⟨_, rfl⟩
          have HCB := Lib.hid hcb
          have HCO : Hid (Calls Tryz.prog 108 #[.slice au M cu] (W4.drewN 1) fun e w' => e = .returned (.slice (some ⟨cb, 0, none⟩) N N) ∧ RowS w' cb N (fun j => txt (code ls j)) ∧ Below cb W4 w') := Lib.hid (by
            refine (codes_any (.slice au M cu) ls (W4.drewN 1) (HI4.out.below ⟨rfl, rfl, rfl, Nat.le_refl _, fun _ _ => rfl⟩) (by rw [HM.out]; omega) hwh).mono ?_
            rintro e w' ⟨rfl, h1, h2⟩
            have e1 : (W4.drewN 1).heap.size = cb := hcb
            rw [e1] at h1 h2 ⊢
            rw [hlN] at h1 ⊢
            exact ⟨rfl, h1, (⟨rfl, rfl, rfl, Nat.le_refl _, fun _ _ => rfl⟩ : Below cb W4 (W4.drewN 1)).trans h2⟩)
          have hcv : Hid ((Value.slice aC k cC).ownBlock ≠ some cb) := Lib.hid (fun e => by have := HSC4.out.old cb e; omega)
          have hcb2 : Hid (w.heap.size + 2 ≤ cb) := Lib.hid (by omega)
          have HLE : Hid (gs.length + 1 ≤ 1000000) := Lib.hid (by rw [HGL.out]; omega)
          have y1 : (W4.drewN 1).cell? ⟨G, 0, none⟩ = some (.slice au M cu) := y0
          clear hlN hno hyes hk2 hA2 hT4 hbc4 hwt g4 hMN hcb HYES HNO hwh HSTP
          go_wp2_with fail
          refine HWH.out.mono ?_
          rintro e w5 ⟨rfl, hw5⟩
          subst hw5
          go_wp2_with fail
          go_region_law (first
              | (refine step_push_ss wA (by rfl) _ _ (by rfl) (w.heap.size + 2) N _ gs ls cb HSCA.out HRSA.out hcb2.out hcv.out (by rfl) (by rfl) HLE.out ?_; intro v6 w6 hsc6 hb6 hv6; obtain ⟨a6, c6, e6⟩ := hsc6.slice; obtain ⟨L6, hL6⟩ : ∃ L6, (gs ++ [ls]).length = L6 := ⟨_, rfl⟩; rw [hL6] at e6; subst e6; have HL6 := Lib.hid hL6; clear hL6; have HSC6 := Lib.hid hsc6; have HB6 := Lib.hid hb6; have hbc6 := (hb6.block (w.heap.size + 1) (by omega)).trans HBCA.out; have HBC6 := Lib.hid hbc6; have k6 : w6.cell? ⟨w.heap.size + 1, 0, none⟩ = some (.slice aC k cC) := (by rw [cell_of_row _ _ _ _ _ _ hbc6]; rfl); have z6 : w6.frozen? ⟨w.heap.size + 1, 0, none⟩ = false := frozen_of_row _ _ _ _ _ hbc6; clear hsc6 hb6 hv6 hbc6)
              | (go_simp; go_at_call 108; refine HCO.out.mono ?_; rintro e wA ⟨rfl, hrs, hbA⟩; have HRSA := Lib.hid hrs; have HBA := Lib.hid hbA; have HSCA := Lib.hid (HSC4.out.below (by rw [HCB.out]; exact hbA)); have hbca := (hbA.block (w.heap.size + 1) (by have := hcb2.out; omega)).trans HBC4.out; have HBCA := Lib.hid hbca; have kA : wA.cell? ⟨w.heap.size + 1, 0, none⟩ = some (.slice aC k cC) := (by rw [cell_of_row _ _ _ _ _ _ hbca]; rfl); have kA2 : (wA.alloc (.cells #[.slice (some ⟨cb, 0, none⟩) N N] 93)).cell? ⟨w.heap.size + 1, 0, none⟩ = some (.slice aC k cC) := ((World.cell?_alloc_some _ _ _ (by rw [kA]; rfl)).trans kA); clear hrs hbA hbca))
          all_goals
            go_wp2_with fail
            go_roundw
            case rel =>
              have hT7 : Touch (· = w.heap.size + 1) w6 (w6.setCell ⟨w.heap.size + 1, 0, none⟩ (.slice a6 L6 c6)) := touch_cell (Touch.refl _ _)
              have hB6 : Below w.heap.size w w6 := (HB4.out.trans (HBA.out.mono (by have := hcb2.out; omega))).trans (HB6.out.mono (by omega))
              refine ⟨k + 1, A2, _, gs ++ [ls], by go_num, by omega, by rw [List.length_append, HGL.out]; rfl, HR2.out, by have := HA2.out; have := HK2.out; omega, HSC6.out.touch hT7 (fun j hj => by have : j = w.heap.size + 1 := hj; omega), hB6.trans (hT7.below hB6.size (fun i hi => by have : i = w.heap.size + 1 := hi; omega)), ?_, heap_setCell_same _ _ 0 _ _ _ HBC6.out⟩
              have h0 : w6.heap[w.heap.size]? = _ := ((HB6.out.block w.heap.size (by omega)).trans (HBA.out.block w.heap.size (by have := hcb2.out; omega))).trans HBH4.out
              exact (hT7.block w.heap.size (Array.getElem?_eq_some_iff.1 h0).1 (by omega)).trans h0
            case measure => simp [intOf]; omega
        · have HWH := Lib.hid (rWhole_any (.slice au M cu) ls false W4 HI4.out (by rw [HM.out]; omega) ⟨fun e => (by cases e), fun h => absurd h hwh⟩)
          have HT := Lib.hid (HNO.out hwh)
          have hbt := built_tb aC k cC 22
          clear hlN hno hyes hk2 hA2 hT4 hbc4 hwt g4 hMN HYES HNO hwh HSTP
          go_wp2_with fail
          refine HWH.out.mono ?_
          rintro e w5 ⟨rfl, hw5⟩
          subst hw5
          go_wp2_with (first | (refine wpList_build_two rfl 91 0 2 _ _ rfl _ _ rfl rfl _ hbt ?_) | (refine wpList_store_row rfl 91 _ _ rfl w.heap.size #[.slice aC k cC, .int .i64 0, .int .i64 22] rfl rfl 91 _ HBH4.out hi rfl (tb_all _ _ _ _ _) ?_))
          refine bodyPost_ret (v := .agg #[.slice aC k cC, .int .i64 0, .int .i64 22]) (results_cell_row rfl _ _ w.heap.size 91 _ (0, 0) _ rfl (setRow_heap _ _ _ _ _ _ HBH4.out) hu rfl hi) rfl (RtOut.err rfl HT.out (by decide) (below_setRow HB4.out (Nat.le_refl _) _))
    · obtain rfl : k = n := by omega
      have hki : ¬ (k : Int) < (k : Int) := by omega
      have HT := Lib.hid (HRT.out.all HGL.out)
      go_wp2_with (first | (refine wpList_load_row rfl 91 _ rfl (w.heap.size + 1) rfl 91 #[.slice aC k cC, .int .i64 (a : Int), .int .i64 0] (0, 0) _ HBC.out hu rfl hi ?_) | (refine wpList_store_row rfl 91 _ _ rfl w.heap.size #[.slice aC k cC, .int .i64 (a : Int), .int .i64 0] rfl rfl 91 _ HBH.out hi rfl (tb_all _ _ _ _ _) ?_))
      refine bodyPost_ret (v := .agg #[.slice aC k cC, .int .i64 (a : Int), .int .i64 0]) (results_cell_row rfl _ _ w.heap.size 91 _ (0, 0) _ rfl (setRow_heap _ _ _ _ _ _ HBH.out) hu rfl hi) rfl ⟨aC, k, cC, gs, a, 0, rfl, HT.out, fun _ => ⟨haq, HGL.out.symm, ?_⟩, below_setRow HB.out (Nat.le_refl _) _⟩
      exact HSC.out.touch (touch_row w.heap.size _ _) (fun j hj => by have : j = w.heap.size := hj; omega)
end Go.Proofs.YtojphcoghbiepaaGreatDoor
namespace Go.Proofs.YtojphcoghbiepaaGreatDoor
open Go.RowKit PkM BitM
set_option linter.unusedVariables false
set_option maxRecDepth 100000 in
set_option maxHeartbeats 1000000 in
theorem rones_any (q : List Bool) (w : World) (hq : q.length ≤ 1000000) :
    Calls Tryz.prog 104 #[.string (txt q)] w fun e w' => e = .returned (.int .i64 ((lead q : Nat) : Int)) ∧ w' = w := by
  have hts := txt_size q
  have HTS := Lib.hid hts
  have HTT := Lib.hid (txt_testD q)
  have hzb : (txt q).size ≤ 1000000 := by omega
  have HLL := Lib.hid (lead_le q)
  clear hts
  go_enter Tryz.func104, Tryz.ntmps104
  go_wp2_with fail
  go_loopw [3] (fun vi wr => ∃ i : Nat, vi = .int .i64 (i : Int) ∧ i ≤ lead q ∧ wr = w) (fun vi _ => q.length - (intOf vi).toNat)
  case atStart => exact ⟨0, rfl, Nat.zero_le _, rfl⟩
  case round =>
    obtain ⟨i, rfl, hil, rfl⟩ := hrel
    by_cases hend : i < q.length
    · have hpz : i < (txt q).size := by have := HTS.out; omega
      have hpi : (i : Int) < ((txt q).size : Int) := by omega
      have hgk := HTT.out i hend hpz
      by_cases hb : q.getD i false = true
      · rw [hb] at hgk
        have hgk2 : ((txt q)[i].toNat : Int) = 49 := hgk
        have hil2 := Lib.hid (lead_next q i hil hend hb)
        clear hgk hb hil
        go_wp2_with fail
        go_roundw
        case rel => exact ⟨i + 1, by go_num, hil2.out, by first | rfl | trivial⟩
        case measure => simp [intOf]; omega
      · have hbf : q.getD i false = false := by simpa using hb
        rw [hbf] at hgk
        have hgk2 : ((txt q)[i].toNat : Int) = 48 := hgk
        have hil2 := Lib.hid (lead_stop q i hil hend hbf)
        clear hgk hb hbf hil
        go_wp2_with fail
        go_ret
        exact ⟨by rw [hil2.out]; rfl, rfl⟩
    · have hpi : ¬ (i : Int) < ((txt q).size : Int) := by have := HTS.out; omega
      have hil2 : Hid (lead q = i) := Lib.hid (by have := HLL.out; omega)
      clear hil
      go_wp2_with fail
      go_ret
      exact ⟨by rw [hil2.out]; rfl, rfl⟩
theorem one_gotP (a : Option Addr) (m c : Nat) (x y z u : Int) : (#[Value.slice a m c, .int .i64 x, .int .i64 y, .int .i64 z, .int .i64 u] : Array Value).all (·.oneCell') = true := by simp [Value.oneCell']
/-- What is told of bits. -/
def GotP (q : List Bool) (ps : List Nat) (t k to : Nat) (err : Int) : Prop :=
  match rd q with
  | .short => ps = [] ∧ t = 0 ∧ k = 0 ∧ to = 0 ∧ err = 3
  | .bad n => ps = [] ∧ t = 0 ∧ k = 0 ∧ to = n ∧ err = 25
  | .ok l n => ps = l ∧ t = num (q.take 3) ∧ k = n ∧ to = n ∧ err = 0
theorem GotP.short {q : List Bool} (h : rd q = .short) : GotP q [] 0 0 0 3 := by unfold GotP; rw [h]; exact ⟨rfl, rfl, rfl, rfl, rfl⟩
theorem GotP.bad {q : List Bool} {n : Nat} (h : rd q = .bad n) : GotP q [] 0 0 n 25 := by unfold GotP; rw [h]; exact ⟨rfl, rfl, rfl, rfl, rfl⟩
theorem GotP.ok {q : List Bool} {l : List Nat} {n t : Nat} (h : rd q = .ok l n) (ht : num (q.take 3) = t) : GotP q l t n n 0 := by unfold GotP; rw [h]; exact ⟨rfl, ht.symm, rfl, rfl, rfl⟩
/-- What the loop of the document's Read knows. -/
def PkInv (w wr : World) (q : List Bool) (T N p : Nat) (o : List Nat) (u : Value) (ps : List Nat) : Prop :=
  rd q = (run T (q.drop p) (N - ps.length) o).add ps p ∧ Six o ∧ OwnI wr (w.heap.size + 1) u (toI ps) ∧ Below w.heap.size w wr ∧ wr.heap[w.heap.size]? = some (.cells #[.slice none 0 0, .int .i64 0, .int .i64 0, .int .i64 0, .int .i64 0] 87 (0, 0))
theorem run_wrong2 {t : Nat} (q : List Bool) (m : Nat) (o : List Nat) (hl : t ≤ lead q) : run t q (m + 1) o = .bad t := by
  rw [run, if_pos hl]
theorem run_step2 {t : Nat} (q : List Bool) (m : Nat) (o : List Nat) (hl : ¬ t ≤ lead q) (hq : ¬ lead q = q.length) : run t q (m + 1) o = (run t (q.drop (lead q + 1)) m (tch o (lead q))).add [o.getD (lead q) 0] (lead q + 1) := by
  rw [run, if_neg hl, if_neg hq]
theorem txt_mid (q : List Bool) (h : 18 ≤ q.length) : (txt q).extract 3 18 = txt ((q.drop 3).take 15) := by
  apply ByteArray.ext
  apply Array.toList_inj.1
  simp only [txt, ByteArray.data_extract, List.extract_toArray, List.extract_eq_take_drop, ← List.map_drop, ← List.map_take]
theorem six_get {o : List Nat} (h : Six o) (i : Nat) (hi : i < 6) (hz : i < (⟨(lets o).toArray⟩ : ByteArray).size) : ((⟨(lets o).toArray⟩ : ByteArray)[i].toNat : Int) = ((48 + o.getD i 0 : Nat) : Int) := by
  have hl : i < o.length := by rw [h.1]; exact hi
  have h1 : (lets o)[i]? = some (UInt8.ofNat (48 + o.getD i 0)) := lets_get (by rw [List.getD_eq_getElem?_getD, List.getElem?_eq_getElem hl]; rfl)
  have h6 : o.getD i 0 < 6 := by
    rw [List.getD_eq_getElem?_getD, List.getElem?_eq_getElem hl]
    exact h.2 _ (List.getElem_mem hl)
  have h2 : (⟨(lets o).toArray⟩ : ByteArray)[i] = UInt8.ofNat (48 + o.getD i 0) := by
    have hz2 : i < (lets o).length := by rw [lets_length]; exact hl
    have h3 : (lets o)[i] = UInt8.ofNat (48 + o.getD i 0) := by
      rw [List.getElem?_eq_getElem hz2] at h1
      exact Option.some.inj h1
    exact h3
  rw [h2, let_nat _ h6]
set_option maxRecDepth 100000 in
set_option maxHeartbeats 4000000 in
theorem rread13_any (q : List Bool) (w : World) (hq : q.length ≤ 1000000) :
    Calls Tryz.prog 55 #[.string (txt q)] w fun e w' => ∃ (u : Value) (ps : List Nat) (t k to : Nat) (err : Int), e = .returned (.agg #[u, .int .i64 (t : Int), .int .i64 (k : Int), .int .i64 (to : Int), .int .i64 err]) ∧ IsInts w' u (toI ps) ∧ Below w.heap.size w w' ∧ GotP q ps t k to err ∧ (∀ j, u.ownBlock = some j → w.heap.size ≤ j ∧ j < w'.heap.size) := by
  have hts := txt_size q
  have hg0 : (w.alloc (.cells #[.slice none 0 0, .int .i64 0, .int .i64 0, .int .i64 0, .int .i64 0] 87)).heap[w.heap.size]? = some (.cells #[.slice none 0 0, .int .i64 0, .int .i64 0, .int .i64 0, .int .i64 0] 87 (0, 0)) := heap_alloc_new _ _
  have hi : (Tryz.prog.info? 87).map (·.size) = some 5 := by kernel_rfl
  have HTS := Lib.hid hts
  have hu := Tryz.underlying87
  by_cases hlen : q.length < 18
  · have hz : ((txt q).size : Int) < 18 := by omega
    have HN := Lib.hid (GotP.short (q := q) (by unfold rd; rw [if_pos hlen]))
    clear hts
    generalize txt q = T at *
    go_enter Tryz.func55, Tryz.ntmps55
    go_wp2_with (refine wpList_store_row rfl 87 _ _ rfl w.heap.size #[.slice none 0 0, .int .i64 0, .int .i64 0, .int .i64 0, .int .i64 3] rfl rfl 87 _ hg0 hi rfl (one_gotP _ _ _ _ _ _ _) ?_)
    refine bodyPost_ret (v := .agg #[.slice none 0 0, .int .i64 0, .int .i64 0, .int .i64 0, .int .i64 3]) (results_cell_row rfl _ _ w.heap.size 87 _ (0, 0) _ rfl (setRow_heap _ _ _ _ _ _ hg0) hu rfl hi) rfl ⟨.slice none 0 0, [], 0, 0, 0, 3, rfl, IsInts.nil _, below_setRow ((Below.refl _ _).alloc (Nat.le_refl _) _) (Nat.le_refl _) _, HN.out, fun j hj => absurd hj (by simp [Value.ownBlock])⟩
  · have h18 : 18 ≤ q.length := by omega
    have hz : ¬ ((txt q).size : Int) < 18 := by omega
    have htk : Hid ((txt q).extract 0 3 = txt (q.take 3)) := Lib.hid (txt_take q 3 (by omega))
    have htm : Hid ((txt q).extract 3 18 = txt ((q.drop 3).take 15)) := Lib.hid (txt_mid q h18)
    have hzb : (txt q).size ≤ 1000000 := by omega
    have h18z : (18 : Int) ≤ ((txt q).size : Int) := by omega
    have h3z : (3 : Int) ≤ ((txt q).size : Int) := by omega
    obtain ⟨_, n2, n3⟩ := num18 h18
    have HNUM1 := Lib.hid (fun W => number_any (q.take 3) W (by rw [List.length_take]; omega))
    have HNUM2 := Lib.hid (fun W => number_any ((q.drop 3).take 15) W (by rw [List.length_take, List.length_drop]; omega))
    have HRD : Hid (rd q = if num (q.take 3) < 2 ∨ 6 < num (q.take 3) ∨ num ((q.drop 3).take 15) = 0 then .bad 18 else (run (num (q.take 3)) (q.drop 18) (num ((q.drop 3).take 15)) [0, 1, 2, 3, 4, 5]).add [] 18) := Lib.hid (by unfold rd; rw [if_neg hlen])
    obtain ⟨T, hT⟩ : ∃ T, num (q.take 3) = T := ⟨_, rfl⟩
    have HT3 := Lib.hid hT
    obtain ⟨N, hN⟩ : ∃ N, num ((q.drop 3).take 15) = N := ⟨_, rfl⟩
    rw [hT] at n3 HNUM1 HRD
    rw [hN] at n2 HNUM2 HRD
    clear hT hN hts
    have HB0 : Hid (Below w.heap.size w (w.alloc (.cells #[.slice none 0 0, .int .i64 0, .int .i64 0, .int .i64 0, .int .i64 0] 87))) := Lib.hid ((Below.refl _ _).alloc (Nat.le_refl _) _)
    by_cases hbad : T < 2 ∨ 6 < T ∨ N = 0
    · have HN := Lib.hid (GotP.bad (q := q) (by rw [HRD.out, if_pos hbad]))
      have hparts : ((T : Int) < 2) ∨ (¬ (T : Int) < 2 ∧ (6 : Int) < T) ∨ (¬ (T : Int) < 2 ∧ ¬ (6 : Int) < T ∧ ((N : Int) == 0) = true) := by
        by_cases h1 : T < 2
        · exact Or.inl (by omega)
        · by_cases h2 : 6 < T
          · exact Or.inr (Or.inl ⟨by omega, by omega⟩)
          · exact Or.inr (Or.inr ⟨by omega, by omega, by rw [beq_iff_eq]; omega⟩)
      clear hbad
      rcases hparts with h1 | ⟨h1, h2⟩ | ⟨h1, h2, h3⟩
      all_goals
        go_enter Tryz.func55, Tryz.ntmps55
        go_wp2_with fail
        rw [htk.out]
        refine (HNUM1.out _).mono ?_
        rintro e w' ⟨rfl, rfl⟩
        go_wp2_with fail
        rw [htm.out]
        refine (HNUM2.out _).mono ?_
        rintro e w' ⟨rfl, rfl⟩
        go_wp2_with (refine wpList_store_row rfl 87 _ _ rfl w.heap.size #[.slice none 0 0, .int .i64 0, .int .i64 0, .int .i64 18, .int .i64 25] rfl rfl 87 _ hg0 hi rfl (one_gotP _ _ _ _ _ _ _) ?_)
        refine bodyPost_ret (v := .agg #[.slice none 0 0, .int .i64 0, .int .i64 0, .int .i64 18, .int .i64 25]) (results_cell_row rfl _ _ w.heap.size 87 _ (0, 0) _ rfl (setRow_heap _ _ _ _ _ _ hg0) hu rfl hi) rfl ⟨.slice none 0 0, [], 0, 0, 18, 25, rfl, IsInts.nil _, below_setRow ((Below.refl _ _).alloc (Nat.le_refl _) _) (Nat.le_refl _) _, HN.out, fun j hj => absurd hj (by simp [Value.ownBlock])⟩
    have HI0 : Hid (PkInv w (w.alloc (.cells #[.slice none 0 0, .int .i64 0, .int .i64 0, .int .i64 0, .int .i64 0] 87)) q T N 18 O6 (.slice none 0 0) []) := Lib.hid ⟨by rw [HRD.out, if_neg hbad]; rfl, Six.start, OwnI.nil _ _, HB0.out, hg0⟩
    have h1 : ¬ (T : Int) < 2 := by omega
    have h2 : ¬ (6 : Int) < (T : Int) := by omega
    have h3 : ((N : Int) == 0) = false := by rw [beq_eq_false_iff_ne]; omega
    clear HB0 hg0 hbad
    go_enter Tryz.func55, Tryz.ntmps55
    go_wp2_with fail
    rw [htk.out]
    refine (HNUM1.out _).mono ?_
    rintro e w' ⟨rfl, rfl⟩
    go_wp2_with fail
    rw [htm.out]
    refine (HNUM2.out _).mono ?_
    rintro e w' ⟨rfl, rfl⟩
    go_wp2_with fail
    go_loopw [5, 6, 7] (fun vo vl vp wr => ∃ (o : List Nat) (ps : List Nat) (p : Nat), vo = .string ⟨(lets o).toArray⟩ ∧ vp = .int .i64 (p : Int) ∧ p ≤ q.length ∧ ps.length ≤ N ∧ PkInv w wr q T N p o vl ps) (fun _ _ vp _ => q.length - (intOf vp).toNat)
    case atStart => exact ⟨O6, [], 18, rfl, rfl, h18, Nat.zero_le _, HI0.out⟩
    case round =>
      clear HI0 HNUM1 HNUM2 htk htm h1 h3
      rename_i vl _
      obtain ⟨o, ps, p, rfl, rfl, hp, hls, hI⟩ := hrel
      obtain ⟨hI1, hSx, hO, hB, hg⟩ := hI
      have HI := Lib.hid hI1
      have HSX := Lib.hid hSx
      have HO := Lib.hid hO
      have HB := Lib.hid hB
      have hpl := toI_length ps
      obtain ⟨al, cl, rfl⟩ := hO.slice
      rw [hpl] at HO ⊢
      have HPL := Lib.hid hpl
      have hlw : w.heap.size < wr.heap.size := (Array.getElem?_eq_some_iff.1 hg).1
      clear hI1 hO hB hSx hpl
      by_cases hdone : ps.length < N
      · have hdi : (ps.length : Int) < (N : Int) := by omega
        obtain ⟨M, hM⟩ : ∃ M, N - ps.length = M + 1 := ⟨N - ps.length - 1, by omega⟩
        have HM := Lib.hid hM
        rw [hM] at HI
        clear hM
        have HDR := Lib.hid (txt_drop q p hp)
        have hp0 : (0 : Int) ≤ (p : Int) := by omega
        have hpz : (p : Int) ≤ ((txt q).size : Int) := by have := HTS.out; omega
        have HON := Lib.hid (fun W => rones_any (q.drop p) W (by rw [List.length_drop]; omega))
        have hll := lead_le (q.drop p)
        rw [List.length_drop] at hll
        have HW := Lib.hid (fun h => run_wrong2 (t := T) (q.drop p) M o h)
        have HSH := Lib.hid (fun h h2 => run_short (t := T) (q.drop p) M o h h2)
        have HSTP := Lib.hid (fun h h2 => run_step2 (t := T) (q.drop p) M o h h2)
        have HQL : Hid ((q.drop p).length = q.length - p) := Lib.hid (List.length_drop)
        obtain ⟨L, hL⟩ : ∃ L, lead (q.drop p) = L := ⟨_, rfl⟩
        rw [hL] at HON hll HW HSH HSTP
        clear hL
        have hp1 : (p : Int) ≤ 1000000 := by omega
        by_cases hw : T ≤ L
        · have hwi : (T : Int) ≤ (L : Int) := by omega
          have HN := Lib.hid (GotP.bad (q := q) (n := p + T) (by rw [HI.out, HW.out hw]; rfl))
          have hPT : (p : Int) + (T : Int) = ((p + T : Nat) : Int) := by omega
          obtain ⟨E, hE⟩ : ∃ E, p + T = E := ⟨_, rfl⟩
          rw [hE] at HN hPT
          have hEw : IntKind.i64.wrap (E : Int) = (E : Int) := IntWalk.i64_in _ (by omega)
          clear hE
          go_wp2_with fail
          rw [HDR.out]
          refine (HON.out _).mono ?_
          rintro e w4 ⟨rfl, rfl⟩
          go_wp2_with (refine wpList_store_row rfl 87 _ _ rfl w.heap.size #[.slice none 0 0, .int .i64 0, .int .i64 0, .int .i64 (E : Int), .int .i64 25] rfl rfl 87 _ hg hi rfl (one_gotP _ _ _ _ _ _ _) ?_)
          refine bodyPost_ret (v := .agg #[.slice none 0 0, .int .i64 0, .int .i64 0, .int .i64 (E : Int), .int .i64 25]) (results_cell_row rfl _ _ w.heap.size 87 _ (0, 0) _ rfl (setRow_heap _ _ _ _ _ _ hg) hu rfl hi) rfl ⟨.slice none 0 0, [], 0, 0, E, 25, rfl, IsInts.nil _, below_setRow HB.out (Nat.le_refl _) _, HN.out, fun j hj => absurd hj (by simp [Value.ownBlock])⟩
        · have hwi : ¬ (T : Int) ≤ (L : Int) := by omega
          by_cases hsh : L = q.length - p
          · have HN := Lib.hid (GotP.short (q := q) (by rw [HI.out, HSH.out (by omega) (by rw [HQL.out]; exact hsh)]; rfl))
            have hne : ((p : Int) + (L : Int) == ((txt q).size : Int)) = true := by rw [beq_iff_eq]; have := HTS.out; omega
            clear hsh
            go_wp2_with fail
            rw [HDR.out]
            refine (HON.out _).mono ?_
            rintro e w4 ⟨rfl, rfl⟩
            go_wp2_with (refine wpList_store_row rfl 87 _ _ rfl w.heap.size #[.slice none 0 0, .int .i64 0, .int .i64 0, .int .i64 0, .int .i64 3] rfl rfl 87 _ hg hi rfl (one_gotP _ _ _ _ _ _ _) ?_)
            refine bodyPost_ret (v := .agg #[.slice none 0 0, .int .i64 0, .int .i64 0, .int .i64 0, .int .i64 3]) (results_cell_row rfl _ _ w.heap.size 87 _ (0, 0) _ rfl (setRow_heap _ _ _ _ _ _ hg) hu rfl hi) rfl ⟨.slice none 0 0, [], 0, 0, 0, 3, rfl, IsInts.nil _, below_setRow HB.out (Nat.le_refl _) _, HN.out, fun j hj => absurd hj (by simp [Value.ownBlock])⟩
          · have hne : ((p : Int) + (L : Int) == ((txt q).size : Int)) = false := by rw [beq_eq_false_iff_ne]; have := HTS.out; omega
            have hI2 := HSTP.out hw (by rw [HQL.out]; exact hsh)
            have hL6 : L < 6 := by omega
            have HEND : Hid (p + L + 1 ≤ q.length) := Lib.hid (by omega)
            have hlt2 := lets_length o
            rw [HSX.out.1] at hlt2
            have hsz : (⟨(lets o).toArray⟩ : ByteArray).size = 6 := by rw [text_size, hlt2]
            have hLz : L < (⟨(lets o).toArray⟩ : ByteArray).size := by omega
            have hgx := six_get HSX.out L hL6 hLz
            have HTC := Lib.hid (fun W => rtouch_any (lets o) L W (by rw [hlt2]; exact hL6) (by rw [hlt2]; omega))
            rw [lets_tch] at HTC
            have HS2 := Lib.hid (HSX.out.tch hL6)
            obtain ⟨X, hX⟩ : ∃ X, o.getD L 0 = X := ⟨_, rfl⟩
            rw [hX] at hI2 hgx
            have HI2 : Hid (rd q = (run T (q.drop (p + L + 1)) (N - (ps ++ [X]).length) (tch o L)).add (ps ++ [X]) (p + L + 1)) := Lib.hid (by
              rw [HI.out, hI2, add_add, List.drop_drop, List.length_append, show N - (ps.length + [X].length) = M from by have := HM.out; show N - (ps.length + 1) = M; omega, Nat.add_assoc])
            have HLN : Hid ((ps ++ [X]).length ≤ N) := Lib.hid (by rw [List.length_append]; exact hdone)
            have HX := Lib.hid hX
            have hl258 : (toI ps).length + 1 ≤ 17592186044416 := by rw [HPL.out]; omega
            have hgy : ((⟨(lets o).toArray⟩ : ByteArray)[L].toNat : Int) = 48 + (X : Int) := by rw [hgx]; omega
            have hX32 : (X : Int) ≤ 300 := by have h9 := (⟨(lets o).toArray⟩ : ByteArray)[L].toNat_lt; omega
            have hLi6 : (L : Int) < 6 := by omega
            have hLi0 : (0 : Int) ≤ (L : Int) := by omega
            have hbound : (p : Int) + (L : Int) ≤ 2000000 := by omega
            clear hI2 hgx hX HI HSTP HSH HW hlt2 hsh
            have hsz2 : ((⟨(lets o).toArray⟩ : ByteArray).size : Int) = 6 := by omega
            generalize (⟨(lets o).toArray⟩ : ByteArray) = LT at *
            go_wp2_with fail
            rw [HDR.out]
            refine (HON.out _).mono ?_
            rintro e w4 ⟨rfl, rfl⟩
            go_wp2_with (at_builtin; refine push_int _ rfl _ _ rfl (w.heap.size + 1) _ (toI ps) (48 + (X : Int) - 48) HO.out rfl rfl hl258 (by omega) ?_)
            intro v3 w3 hO3 hB3
            have HO3 : Hid (OwnI w3 (w.heap.size + 1) v3 (toI (ps ++ [X]))) := Lib.hid (by rw [show (48 + (X : Int) - 48) = (X : Int) by omega] at hO3; rw [toI_app]; exact hO3)
            have HB3 := Lib.hid (HB.out.trans (hB3.mono (Nat.le_succ _)))
            have hg3 := (hB3.block w.heap.size (Nat.lt_succ_self _)).trans hg
            clear hO3 hB3
            go_wp2_with fail
            refine (HTC.out _).mono ?_
            rintro e w5 ⟨rfl, m5, hw5⟩
            have HO5 : Hid (OwnI w5 (w.heap.size + 1) v3 (toI (ps ++ [X]))) := Lib.hid (by rw [hw5]; exact HO3.out.drewN m5)
            have HB5 : Hid (Below w.heap.size w w5) := Lib.hid (by rw [hw5]; exact HB3.out.trans ⟨rfl, rfl, rfl, Nat.le_refl _, fun _ _ => rfl⟩)
            have hg5 : w5.heap[w.heap.size]? = some (.cells #[.slice none 0 0, .int .i64 0, .int .i64 0, .int .i64 0, .int .i64 0] 87 (0, 0)) := by rw [hw5]; exact hg3
            clear hw5 hg3
            go_wp2_with fail
            have hend := HEND.out
            go_roundw
            case rel => exact ⟨tch o L, ps ++ [X], p + L + 1, rfl, by go_num, by omega, HLN.out, HI2.out, HS2.out, HO5.out, HB5.out, hg5⟩
            case measure => simp [intOf]; omega
      · have hdi : ¬ (ps.length : Int) < (N : Int) := by omega
        have hlN : N - ps.length = 0 := by omega
        have HN : Hid (GotP q ps T p p 0) := Lib.hid (GotP.ok (by rw [HI.out, hlN]; show Res.ok (ps ++ []) (p + 0) = _; rw [List.append_nil]; rfl) HT3.out)
        clear hlN
        go_wp2_with (refine wpList_store_row rfl 87 _ _ rfl w.heap.size #[.slice al ps.length cl, .int .i64 (T : Int), .int .i64 (p : Int), .int .i64 (p : Int), .int .i64 0] rfl rfl 87 _ hg hi rfl (one_gotP _ _ _ _ _ _ _) ?_)
        refine bodyPost_ret (v := .agg #[.slice al ps.length cl, .int .i64 (T : Int), .int .i64 (p : Int), .int .i64 (p : Int), .int .i64 0]) (results_cell_row rfl _ _ w.heap.size 87 _ (0, 0) _ rfl (setRow_heap _ _ _ _ _ _ hg) hu rfl hi) rfl ⟨_, ps, T, p, p, 0, rfl, ?_, below_setRow HB.out (Nat.le_refl _) _, HN.out, fun j hj => by have h5 := HO.out.lt j hj; exact ⟨by omega, by rw [setRow_size]; exact h5.2⟩⟩
        exact (HO.out.setRow w.heap.size _ (Nat.lt_succ_self _)).ints
end Go.Proofs.YtojphcoghbiepaaGreatDoor
namespace Go.Proofs.YtojphcoghbiepaaGreatDoor
open Go.RowKit
set_option linter.unusedVariables false
theorem wpList_build_three {P : Program} {ops : Array Oper} {rest : List Oper} {o : Oper} {a : Act} {w : World} {Q : Exit → Act → World → Prop} (hg : o.guard = none) (t : TypeId) (n m k : Nat) (y z x : Operand) (ho : o.op = .build t #[(n, y), (m, z), (k, x)]) (v u r : Value) (hy : a.eval y = v) (hz : a.eval z = u) (hx : a.eval x = r) (Z : Array Value)
    (hb : P.built t [(n, v), (m, u), (k, r)] = some Z) (h : wpList P ops Q rest (a.put o.dst (.agg Z)) w) : wpList P ops Q (o :: rest) a w := by
  subst hy hz hx
  refine wpList_build hg t #[(n, y), (m, z), (k, x)] ho ?_ ?_
  · simp [hb]
  · simpa [hb] using h
end Go.Proofs.YtojphcoghbiepaaGreatDoor
namespace Go.Proofs.YtojphcoghbiepaaGreatDoor
open Go.RowKit BitM HufM CanM CodM TabM FreqM
set_option linter.unusedVariables false
theorem info_g14 : (Tryz.prog.info? 34).map (·.size) = some 4 := by kernel_rfl
theorem g14_all (a : Option Addr) (m c : Nat) (x y z : Int) : (#[Value.slice a m c, .int .i64 x, .int .i64 y, .int .i64 z] : Array Value).all (·.oneCell') = true := by simp [Value.oneCell']
set_option maxRecDepth 100000 in
theorem built_g14 (x : Int) : Tryz.prog.built 34 [(3, .int .i64 x)] = some #[.slice none 0 0, .int .i64 0, .int .i64 0, .int .i64 x] := by kernel_rfl
set_option maxRecDepth 100000 in
theorem built_g14l (a : Option Addr) (m c : Nat) (x y : Int) : Tryz.prog.built 34 [(0, .slice a m c), (1, .int .i64 x), (2, .int .i64 y)] = some #[.slice a m c, .int .i64 x, .int .i64 y, .int .i64 0] := by kernel_rfl
/-- What the document's Read tells. -/
def RdD14 (Q : List Bool) (N most : Nat) (ls : List Int) (n held : Nat) (er : Int) : Prop := match rdC Q N most with
  | .ok l k => ls = l ∧ n = k ∧ held = heldC Q N ∧ er = 0
  | .err e _ => ls = [] ∧ n = 0 ∧ held = 0 ∧ er = e
theorem RdD14.err {Q : List Bool} {N most : Nat} {e : Int} {l : List Int} (h : rdC Q N most = .err e l) : RdD14 Q N most [] 0 0 e := by unfold RdD14; rw [h]; exact ⟨rfl, rfl, rfl, rfl⟩
theorem RdD14.ok {Q : List Bool} {N most k : Nat} {l : List Int} (h : rdC Q N most = .ok l k) : RdD14 Q N most l k (heldC Q N) 0 := by unfold RdD14; rw [h]; exact ⟨rfl, rfl, rfl, rfl⟩
def RdOut (Q : List Bool) (N most : Nat) (w : World) (e : Ending) (w' : World) : Prop :=
  ∃ (ad : Option Addr) (m c : Nat) (ls : List Int) (n held : Nat) (er : Int), e = .returned (.agg #[.slice ad m c, .int .i64 (n : Int), .int .i64 (held : Int), .int .i64 er]) ∧ m = ls.length ∧ IsInts w' (.slice ad m c) ls ∧ RdD14 Q N most ls n held er ∧ Below w.heap.size w w' ∧ (∀ j, (Value.slice ad m c).ownBlock = some j → w.heap.size ≤ j ∧ j < w'.heap.size) ∧ ls.length ≤ Q.length
theorem RdOut.err {Q : List Bool} {N most : Nat} {w w' : World} {e : Ending} {er : Int} {l : List Int} (he : e = .returned (.agg #[.slice none 0 0, .int .i64 0, .int .i64 0, .int .i64 er])) (h : rdC Q N most = .err er l) (hb : Below w.heap.size w w') : RdOut Q N most w e w' :=
  ⟨none, 0, 0, [], 0, 0, er, he, rfl, IsInts.nil _, RdD14.err h, hb, fun j hj => absurd hj (by simp [Value.ownBlock]), Nat.zero_le _⟩
/-- What lies behind the tables. -/
structure RdBx (w W : World) (N G G2 M : Nat) (au : Option Addr) (cu : Nat) (ps : List Nat) (t k : Nat) (ad : Option Addr) (m4 c4 : Nat) (gs : List (List Int)) (a : Nat) (er : Int) : Prop where
  bel : Below w.heap.size w W
  g1 : W.heap[G]? = some (.cells #[.slice au M cu, .int .i64 (t : Int), .int .i64 (k : Int), .int .i64 (k : Int), .int .i64 0] 87 (0, 0))
  g2 : W.heap[G2]? = some (.cells #[.slice ad m4 c4, .int .i64 (a : Int), .int .i64 er] 91 (0, 0))
  row : IsInts W (.slice au M cu) (PkM.toI ps)
  sc : er = 0 → SCodes W 0 N (.slice ad m4 c4) gs
theorem SCodes.zero {w : World} {base N : Nat} {v : Value} {gs : List (List Int)} (h : SCodes w base N v gs) : SCodes w 0 N v gs := by
  obtain ⟨bs, q1, q2, q3, q4⟩ := h
  exact ⟨bs, World.ownsRow.mono q1 (Nat.zero_le _), q2, Nat.zero_le _, fun i hi => ⟨(q4 i hi).1, Nat.zero_le _, (q4 i hi).2.2⟩⟩
theorem RdBx.below {w W W' : World} {N G G2 M : Nat} {au : Option Addr} {cu : Nat} {ps : List Nat} {t k : Nat} {ad : Option Addr} {m4 c4 : Nat} {gs : List (List Int)} {a : Nat} {er : Int} (h : RdBx w W N G G2 M au cu ps t k ad m4 c4 gs a er) (hb : Below W.heap.size W W') : RdBx w W' N G G2 M au cu ps t k ad m4 c4 gs a er :=
  ⟨h.bel.trans (hb.mono h.bel.size), (hb.block G (Array.getElem?_eq_some_iff.1 h.g1).1).trans h.g1, (hb.block G2 (Array.getElem?_eq_some_iff.1 h.g2).1).trans h.g2, h.row.below hb, fun e => (h.sc e).below hb⟩
theorem RdBx.cells {w W : World} {N G G2 M : Nat} {au : Option Addr} {cu : Nat} {ps : List Nat} {t k : Nat} {ad : Option Addr} {m4 c4 : Nat} {gs : List (List Int)} {a : Nat} {er : Int} (h : RdBx w W N G G2 M au cu ps t k ad m4 c4 gs a er) :
    W.cell? ⟨G, 0, none⟩ = some (.slice au M cu) ∧ W.cell? ⟨G, 1, none⟩ = some (.int .i64 (t : Int)) ∧ W.cell? ⟨G, 2, none⟩ = some (.int .i64 (k : Int)) ∧ W.cell? ⟨G2, 0, none⟩ = some (.slice ad m4 c4) ∧ W.cell? ⟨G2, 1, none⟩ = some (.int .i64 (a : Int)) ∧ W.cell? ⟨G2, 2, none⟩ = some (.int .i64 er) := by
  refine ⟨?_, ?_, ?_, ?_, ?_, ?_⟩
  · rw [cell_of_row _ _ _ _ _ _ h.g1]; rfl
  · rw [cell_of_row _ _ _ _ _ _ h.g1]; rfl
  · rw [cell_of_row _ _ _ _ _ _ h.g1]; rfl
  · rw [cell_of_row _ _ _ _ _ _ h.g2]; rfl
  · rw [cell_of_row _ _ _ _ _ _ h.g2]; rfl
  · rw [cell_of_row _ _ _ _ _ _ h.g2]; rfl
/-- Behind the tables the symbols begin. -/
theorem rtc_start {Q : List Bool} {N most k t : Nat} {ps : List Nat} {gs : List (List Int)} {a : Nat} (hH : Hd Q ps t) (hrc : rdC Q N most = (rdT ps N most t (Q.drop k) []).skip k) (hT : TabP (Q.drop k) N t gs a 0) : RtC Q N most (k + a) [] (.sym t ps gs 0 false) := by
  rcases hT with ⟨_, hg, hW, hr⟩ | ⟨h, _⟩
  · refine ⟨hH, hW, hg, rfl, Nat.zero_le _, ?_⟩
    rw [if_neg (by simp)]
    refine ⟨Nat.zero_le _, ?_⟩
    rw [hrc, hr, skip_skip, List.drop_drop]
  · exact absurd rfl h
set_option maxRecDepth 100000 in
set_option maxHeartbeats 8000000 in
theorem rread14_any (Q : List Bool) (N most : Nat) (w : World) (hQ : Q.length ≤ 100000) (h3 : 3 ≤ N) (h258 : N ≤ 258) :
    Calls Tryz.prog 18 #[.string (txt Q), .int .i64 (N : Int), .int .i64 (most : Int)] w (RdOut Q N most w) := by
  have hts := txt_size Q
  have HTS := Lib.hid hts
  have hi := info_g14
  have hu := Tryz.underlying34
  have hw0 : Below w.heap.size w (w.alloc (.cells #[.slice none 0 0, .int .i64 0, .int .i64 0, .int .i64 0] 34)) := (Below.refl _ _).alloc (Nat.le_refl _) _
  have hg0 := heap_alloc_new w (.cells #[.slice none 0 0, .int .i64 0, .int .i64 0, .int .i64 0] 34)
  have HRD := Lib.hid (fun W => rread13_any Q W (by omega))
  have HD : Hid (∀ k, k ≤ Q.length → (txt Q).extract k (txt Q).size = txt (Q.drop k)) := Lib.hid (fun k hk => txt_drop Q k hk)
  obtain ⟨S, hS⟩ : ∃ S, txt Q = S := ⟨_, rfl⟩
  rw [hS] at hts HRD HD ⊢
  clear hS
  go_enter Tryz.func18, Tryz.ntmps18
  go_wp2_with fail
  generalize w.alloc (.cells #[.slice none 0 0, .int .i64 0, .int .i64 0, .int .i64 0] 34) = w1 at *
  have HW1 := Lib.hid hw0
  have HG1 := Lib.hid hg0
  clear hw0 hg0
  refine (HRD.out _).mono ?_
  rintro e w2 ⟨u, ps, t, k, to, er, rfl, hi2, hb2, hgp, ho2⟩
  obtain ⟨au, cu, rfl, hcu⟩ := hi2
  obtain ⟨M, hM⟩ : ∃ M, (PkM.toI ps).length = M := ⟨_, rfl⟩
  have HM := Lib.hid hM
  have HI2 : Hid (IsInts w2 (.slice au (PkM.toI ps).length cu) (PkM.toI ps)) := Lib.hid ⟨au, cu, rfl, hcu⟩
  rw [hM] at HI2 ⊢
  have hb3 := (Below.refl w2.heap.size w2).alloc (Nat.le_refl _) (.cells #[.slice au M cu, .int .i64 (t : Int), .int .i64 (k : Int), .int .i64 (to : Int), .int .i64 er] 87)
  have hg3 := heap_alloc_new w2 (.cells #[.slice au M cu, .int .i64 (t : Int), .int .i64 (k : Int), .int .i64 (to : Int), .int .i64 er] 87)
  have HI3 := Lib.hid (HI2.out.below hb3)
  have hb23 := hb2.trans (hb3.mono hb2.size)
  have HB3 := Lib.hid (HW1.out.trans (hb23.mono HW1.out.size))
  have hlt1 : w.heap.size < w1.heap.size := (Array.getElem?_eq_some_iff.1 HG1.out).1
  have HH3 := Lib.hid ((hb23.block _ hlt1).trans HG1.out)
  have HGE : Hid (w.heap.size < w2.heap.size) := Lib.hid (by have := hb2.size; omega)
  unfold GotP at hgp
  clear hM hcu hb2 hb23 hb3 ho2 HI2 HRD HG1 HW1 hlt1
  go_upto_region 2 with fail
  generalize w2.alloc (.cells #[.slice au M cu, .int .i64 (t : Int), .int .i64 (k : Int), .int .i64 (to : Int), .int .i64 er] 87) = W3 at *
  generalize w2.heap.size = G at *
  have e0 : W3.cell? ⟨G, 0, none⟩ = some (.slice au M cu) := by rw [cell_of_row _ _ _ _ _ _ hg3]; rfl
  have e1 : W3.cell? ⟨G, 1, none⟩ = some (.int .i64 (t : Int)) := by rw [cell_of_row _ _ _ _ _ _ hg3]; rfl
  have e2 : W3.cell? ⟨G, 2, none⟩ = some (.int .i64 (k : Int)) := by rw [cell_of_row _ _ _ _ _ _ hg3]; rfl
  have e4 : W3.cell? ⟨G, 4, none⟩ = some (.int .i64 er) := by rw [cell_of_row _ _ _ _ _ _ hg3]; rfl
  have HG3 := Lib.hid hg3
  clear hg3
  cases hrd : PkM.rd Q with
  | short =>
    rw [hrd] at hgp
    obtain ⟨rfl, rfl, rfl, rfl, rfl⟩ := hgp
    have HT := Lib.hid (rdC_short (N := N) (most := most) hrd)
    have hbt := built_g14 3
    clear hrd
    go_wp2_with (first | (refine wpList_build_one rfl 34 3 _ rfl _ rfl _ hbt ?_) | (refine wpList_store_row rfl 34 _ _ rfl w.heap.size #[.slice none 0 0, .int .i64 0, .int .i64 0, .int .i64 3] rfl rfl 34 _ HH3.out hi rfl (g14_all _ _ _ _ _ _) ?_))
    refine bodyPost_ret (v := .agg #[.slice none 0 0, .int .i64 0, .int .i64 0, .int .i64 3]) (results_cell_row rfl _ _ w.heap.size 34 _ (0, 0) _ rfl (setRow_heap _ _ _ _ _ _ HH3.out) hu rfl hi) rfl (RdOut.err rfl HT.out (below_setRow HB3.out (Nat.le_refl _) _))
  | bad n =>
    rw [hrd] at hgp
    obtain ⟨rfl, rfl, rfl, rfl, rfl⟩ := hgp
    have HT := Lib.hid (rdC_bad (N := N) (most := most) hrd)
    have hbt := built_g14 25
    clear hrd
    go_wp2_with (first | (refine wpList_build_one rfl 34 3 _ rfl _ rfl _ hbt ?_) | (refine wpList_store_row rfl 34 _ _ rfl w.heap.size #[.slice none 0 0, .int .i64 0, .int .i64 0, .int .i64 25] rfl rfl 34 _ HH3.out hi rfl (g14_all _ _ _ _ _ _) ?_))
    refine bodyPost_ret (v := .agg #[.slice none 0 0, .int .i64 0, .int .i64 0, .int .i64 25]) (results_cell_row rfl _ _ w.heap.size 34 _ (0, 0) _ rfl (setRow_heap _ _ _ _ _ _ HH3.out) hu rfl hi) rfl (RdOut.err rfl HT.out (below_setRow HB3.out (Nat.le_refl _) _))
  | ok ps' n =>
    rw [hrd] at hgp
    obtain ⟨rfl, ht, hk1, hk2, rfl⟩ := hgp
    subst hk1
    obtain rfl := hk2.symm
    obtain ⟨hH, hkl⟩ := prd_hd hrd
    rw [← ht] at hH
    have HHD := Lib.hid hH
    have ht6 : t ≤ 6 := hH.2.2.1
    have HRC := Lib.hid (rdC_ok (N := N) (most := most) hrd)
    rw [← ht] at HRC
    have HDR := Lib.hid (HD.out k hkl)
    rw [hts] at HDR
    have hGlt : G < W3.heap.size := (Array.getElem?_eq_some_iff.1 HG3.out).1
    have HGL := Lib.hid hGlt
    have HKL := Lib.hid hkl
    have hki : (k : Int) ≤ (S.size : Int) := by omega
    have HTB := Lib.hid (fun W => rtables_any (Q.drop k) t N W (by rw [List.length_drop]; omega) h3 h258 ht6)
    have HB4 := Lib.hid (fun W (hW : Below W3.heap.size W3 W) => HB3.out.trans (hW.mono HB3.out.size))
    clear hrd ht hH
    go_wp2_with fail
    have hbq : Below W3.heap.size W3 (W3.alloc (.cells #[.slice none 0 0, .int .i64 0, .int .i64 0] 91)).drew := ((Below.refl _ _).alloc (Nat.le_refl _) (.cells #[.slice none 0 0, .int .i64 0, .int .i64 0] 91)).trans ⟨rfl, rfl, rfl, Nat.le_refl _, fun _ _ => rfl⟩
    have hgq : (W3.alloc (.cells #[.slice none 0 0, .int .i64 0, .int .i64 0] 91)).drew.heap[W3.heap.size]? = some (.cells #[.slice none 0 0, .int .i64 0, .int .i64 0] 91 (0, 0)) := heap_alloc_new W3 (.cells #[.slice none 0 0, .int .i64 0, .int .i64 0] 91)
    have hsq : (W3.alloc (.cells #[.slice none 0 0, .int .i64 0, .int .i64 0] 91)).drew.heap.size = W3.heap.size + 1 := by simp [World.drew]
    have HBQ := Lib.hid hbq
    have HGQ := Lib.hid hgq
    have HSQ := Lib.hid hsq
    clear hbq hgq hsq
    go_region_held3 (fun W => W.cell? ⟨G, 1, none⟩ = some (.int .i64 (t : Int)) ∧ W.cell? ⟨G, 2, none⟩ = some (.int .i64 (k : Int))) (first | go_keep | exact HK4.out _ _ _)
      (first
        | (go_at_call 56; rw [HDR.out]; refine (HTB.out _).mono ?_; rintro e w4 ⟨ad, m4, c4, gs, a, er4, rfl, hT4, hS4, hb4⟩; have HT4 := Lib.hid hT4; have HS4 := Lib.hid hS4; have hb34 : Below W3.heap.size W3 w4 := (⟨rfl, rfl, rfl, Nat.le_refl _, fun _ _ => rfl⟩ : Below W3.heap.size W3 W3.drew).trans hb4; have HB34 := Lib.hid hb34; have hg4 := (hb34.block G HGL.out).trans HG3.out; have HG4 := Lib.hid hg4; have x1 : w4.cell? ⟨G, 1, none⟩ = some (.int .i64 (t : Int)) := (by rw [cell_of_row _ _ _ _ _ _ hg4]; rfl); have x2 : w4.cell? ⟨G, 2, none⟩ = some (.int .i64 (k : Int)) := (by rw [cell_of_row _ _ _ _ _ _ hg4]; rfl); clear hT4 hS4 hb4 hb34 hg4)
        | (go_at_call 56; rw [HDR.out]; refine (HTB.out _).mono ?_; rintro e w4 ⟨ad, m4, c4, gs, a, er4, rfl, hT4, hS4, hb4⟩; have HT4 := Lib.hid hT4; have HS4 := Lib.hid hS4; have hb34 := HBQ.out.trans (hb4.mono (Nat.le_trans (Nat.le_succ _) (Nat.le_of_eq HSQ.out.symm))); have HB34 := Lib.hid hb34; have hg4 := (hb34.block G HGL.out).trans HG3.out; have HG4 := Lib.hid hg4; have x1 : w4.cell? ⟨G, 1, none⟩ = some (.int .i64 (t : Int)) := (by rw [cell_of_row _ _ _ _ _ _ hg4]; rfl); have x2 : w4.cell? ⟨G, 2, none⟩ = some (.int .i64 (k : Int)) := (by rw [cell_of_row _ _ _ _ _ _ hg4]; rfl); have hq4 := (hb4.block W3.heap.size (by rw [HSQ.out]; omega)).trans HGQ.out; have HQ4 := Lib.hid hq4; have y0 : w4.cell? ⟨W3.heap.size, 0, none⟩ = some (.slice none 0 0) := (by rw [cell_of_row _ _ _ _ _ _ hq4]; rfl); have y1 : w4.cell? ⟨W3.heap.size, 1, none⟩ = some (.int .i64 0) := (by rw [cell_of_row _ _ _ _ _ _ hq4]; rfl); have y2 : w4.cell? ⟨W3.heap.size, 2, none⟩ = some (.int .i64 0) := (by rw [cell_of_row _ _ _ _ _ _ hq4]; rfl); have z0 : w4.frozen? ⟨W3.heap.size, 0, none⟩ = false := frozen_of_row _ _ _ _ _ hq4; have z1 : w4.frozen? ⟨W3.heap.size, 1, none⟩ = false := frozen_of_row _ _ _ _ _ hq4; have z2 : w4.frozen? ⟨W3.heap.size, 2, none⟩ = false := frozen_of_row _ _ _ _ _ hq4; have HK4 : Hid (∀ x y z, (((w4.setCell ⟨W3.heap.size, 0, none⟩ x).setCell ⟨W3.heap.size, 1, none⟩ y).setCell ⟨W3.heap.size, 2, none⟩ z).cell? ⟨G, 1, none⟩ = some (.int .i64 (t : Int)) ∧ (((w4.setCell ⟨W3.heap.size, 0, none⟩ x).setCell ⟨W3.heap.size, 1, none⟩ y).setCell ⟨W3.heap.size, 2, none⟩ z).cell? ⟨G, 2, none⟩ = some (.int .i64 (k : Int))) := Lib.hid (fun x y z => by
          have hT : Touch (· = W3.heap.size) w4 (((w4.setCell ⟨W3.heap.size, 0, none⟩ x).setCell ⟨W3.heap.size, 1, none⟩ y).setCell ⟨W3.heap.size, 2, none⟩ z) := touch_cell (touch_cell (touch_cell (Touch.refl _ _)))
          have h := (hT.block G (Nat.lt_of_lt_of_le HGL.out HB34.out.size) (fun e => by have h1 := HGL.out; have h2 : G = W3.heap.size := e; omega)).trans HG4.out
          exact ⟨by rw [cell_of_row _ _ _ _ _ _ h]; rfl, by rw [cell_of_row _ _ _ _ _ _ h]; rfl⟩); clear hT4 hS4 hb4 hb34 hg4 hq4))
    focus
      have HX : Hid (RdBx w (w4.alloc (.cells #[.slice ad m4 c4, .int .i64 (a : Int), .int .i64 er4] 91)) N G w4.heap.size M au cu ps t k ad m4 c4 gs a er4 ∧ (w4.alloc (.cells #[.slice ad m4 c4, .int .i64 (a : Int), .int .i64 er4] 91)).heap[w.heap.size]? = some (.cells #[.slice none 0 0, .int .i64 0, .int .i64 0, .int .i64 0] 34 (0, 0))) := Lib.hid (by
        have hb5 := (Below.refl w4.heap.size w4).alloc (Nat.le_refl _) (.cells #[.slice ad m4 c4, .int .i64 (a : Int), .int .i64 er4] 91)
        have hb35 := HB34.out.trans (hb5.mono HB34.out.size)
        exact ⟨⟨HB4.out _ hb35, (hb35.block G HGL.out).trans HG3.out, heap_alloc_new w4 _, HI3.out.below hb35, fun e => (((HS4.out e).2.2).below hb5).zero⟩, (hb35.block _ (Array.getElem?_eq_some_iff.1 HH3.out).1).trans HH3.out⟩)
      have HAL : Hid (er4 = 0 → a ≤ (Q.drop k).length) := Lib.hid (fun e => (HS4.out e).1)
      clear HS4 HB34 HG4 HB4 HBQ HGQ HSQ x1 x2 e0 e1 e2 e4 hGlt HGL HG3 HI3 HH3 HB3
      generalize w4.alloc (.cells #[.slice ad m4 c4, .int .i64 (a : Int), .int .i64 er4] 91) = W5 at *
      generalize w4.heap.size = G2 at *
    rotate_left
    focus
      have HX : Hid (RdBx w (((w4.setCell ⟨W3.heap.size, 0, none⟩ (.slice ad m4 c4)).setCell ⟨W3.heap.size, 1, none⟩ (.int .i64 (a : Int))).setCell ⟨W3.heap.size, 2, none⟩ (.int .i64 er4)) N G W3.heap.size M au cu ps t k ad m4 c4 gs a er4 ∧ (((w4.setCell ⟨W3.heap.size, 0, none⟩ (.slice ad m4 c4)).setCell ⟨W3.heap.size, 1, none⟩ (.int .i64 (a : Int))).setCell ⟨W3.heap.size, 2, none⟩ (.int .i64 er4)).heap[w.heap.size]? = some (.cells #[.slice none 0 0, .int .i64 0, .int .i64 0, .int .i64 0] 34 (0, 0))) := Lib.hid (by
        have hT : Touch (· = W3.heap.size) w4 (((w4.setCell ⟨W3.heap.size, 0, none⟩ (.slice ad m4 c4)).setCell ⟨W3.heap.size, 1, none⟩ (.int .i64 (a : Int))).setCell ⟨W3.heap.size, 2, none⟩ (.int .i64 er4)) := touch_cell (touch_cell (touch_cell (Touch.refl _ _)))
        have hb35 := HB34.out.trans (hT.below HB34.out.size (fun i hi => by have : i = W3.heap.size := hi; omega))
        have hsq := HSQ.out
        exact ⟨⟨HB4.out _ hb35, (hb35.block G HGL.out).trans HG3.out, heap_setCell_same _ _ 2 _ _ _ (heap_setCell_same _ _ 1 _ _ _ (heap_setCell_same _ _ 0 _ _ _ HQ4.out)), HI3.out.below hb35, fun e => (((HS4.out e).2.2).touch hT (fun i hi => by have : i = W3.heap.size := hi; omega)).zero⟩, (hb35.block _ (Array.getElem?_eq_some_iff.1 HH3.out).1).trans HH3.out⟩)
      have HAL : Hid (er4 = 0 → a ≤ (Q.drop k).length) := Lib.hid (fun e => (HS4.out e).1)
      clear HS4 HB34 HG4 HB4 HBQ HGQ HSQ x1 x2 e0 e1 e2 e4 hGlt HGL HG3 HI3 HH3 HB3 HQ4 HK4 y0 y1 y2 z0 z1 z2
      generalize ((w4.setCell ⟨W3.heap.size, 0, none⟩ (.slice ad m4 c4)).setCell ⟨W3.heap.size, 1, none⟩ (.int .i64 (a : Int))).setCell ⟨W3.heap.size, 2, none⟩ (.int .i64 er4) = W5 at *
      generalize W3.heap.size = G2 at *
    all_goals
      obtain ⟨c0, c1, c2, d0, d1, d2⟩ := HX.out.1.cells
      by_cases her : er4 = 0
      · subst her
        have HAL := Lib.hid (HAL.out rfl)
        have hal := HAL.out
        rw [List.length_drop] at hal
        have HRS := Lib.hid (rtc_start HHD.out HRC.out HT4.out)
        have hsum : (k : Int) + (a : Int) = ((k + a : Nat) : Int) := by omega
        obtain ⟨A0, hA0⟩ : ∃ A0, k + a = A0 := ⟨_, rfl⟩
        rw [hA0] at hsum HRS
        have hA0w : IntKind.i64.wrap (A0 : Int) = (A0 : Int) := IntWalk.i64_in _ (by have := HKL.out; omega)
        have HA0 : Hid (A0 ≤ Q.length) := Lib.hid (by have := HKL.out; omega)
        clear hal hA0
        go_wp2_with fail
        obtain ⟨B, hB⟩ : ∃ B, W5.heap.size = B := ⟨_, rfl⟩
        have HBE := Lib.hid hB
        clear hB
        go_loopw [9, 10] (fun va vl wr => ∃ (b : Nat) (L : List Int), va = .int .i64 (b : Int) ∧ b ≤ Q.length ∧ L.length ≤ b ∧ RtC Q N most b L (.sym t ps gs L.length false) ∧ OwnI wr B vl L ∧ Below B W5 wr) (fun va _ _ => Q.length - (intOf va).toNat)
        case atStart => exact ⟨A0, [], rfl, HA0.out, Nat.zero_le _, HRS.out, OwnI.nil _ _, ⟨rfl, rfl, rfl, Nat.le_refl _, fun _ _ => rfl⟩⟩
        case round =>
          clear HRS HAL HA0 hA0w hsum c0 c1 c2 d0 d1 d2
          obtain ⟨b, L, rfl, hbq, hLb, hrt, hO, hbr⟩ := hrel
          have hbr2 : Below W5.heap.size W5 wr := by rw [HBE.out]; exact hbr
          have HR := Lib.hid (HX.out.1.below hbr2)
          have HH := Lib.hid ((hbr2.block _ (Array.getElem?_eq_some_iff.1 HX.out.2).1).trans HX.out.2)
          obtain ⟨c0, c1, c2, d0, d1, d2⟩ := HR.out.cells
          have HO := Lib.hid hO
          have HBR := Lib.hid hbr
          have HRT := Lib.hid hrt
          have HBL : Hid (B ≤ wr.heap.size ∧ w.heap.size < B) := Lib.hid (by have h1 := HBE.out; have h2 := (Array.getElem?_eq_some_iff.1 HX.out.2).1; have h3 := hbr.size; omega)
          have hsy := RtC.sym (q := Q.drop b) (r := []) hrt (by rw [List.append_nil])
          have HSY := Lib.hid hsy
          have HMP : Hid (ps.length = M) := Lib.hid (by rw [← HM.out, PkM.toI_length])
          obtain ⟨aL, cL, rfl⟩ := hO.slice
          obtain ⟨n, hn⟩ : ∃ n, L.length = n := ⟨_, rfl⟩
          have HN := Lib.hid hn
          rw [hn] at hLb HSY HO ⊢
          have hgi0 : (0 : Int) ≤ (n : Int) / 50 := by omega
          have hlm : L.length ≤ most := by
            obtain ⟨_, _, _, _, _, hif⟩ := hrt
            rw [if_neg (by simp)] at hif
            exact hif.1
          rw [hn] at hlm
          have hnb : n ≤ 100000 := by omega
          clear hrt hbr hbr2 hsy hO hn
          by_cases hpk : M ≤ n / 50
          · have hpi : (M : Int) ≤ (n : Int) / 50 := by omega
            have HRE := Lib.hid (HSY.out.1 (by rw [HMP.out]; exact hpk))
            have hbt := built_g14 25
            clear hpk
            go_wp2_with (first | (refine wpList_build_one rfl 34 3 _ rfl _ rfl _ hbt ?_) | (refine wpList_store_row rfl 34 _ _ rfl w.heap.size #[.slice none 0 0, .int .i64 0, .int .i64 0, .int .i64 25] rfl rfl 34 _ HH.out hi rfl (g14_all _ _ _ _ _ _) ?_))
            refine bodyPost_ret (v := .agg #[.slice none 0 0, .int .i64 0, .int .i64 0, .int .i64 25]) (results_cell_row rfl _ _ w.heap.size 34 _ (0, 0) _ rfl (setRow_heap _ _ _ _ _ _ HH.out) hu rfl hi) rfl (RdOut.err rfl HRE.out (below_setRow HR.out.bel (Nat.le_refl _) _))
          · have hpk2 : n / 50 < M := by omega
            have hpi : ¬ (M : Int) ≤ (n : Int) / 50 := by omega
            have hgi1 : (n : Int) / 50 < (M : Int) := by omega
            obtain ⟨g, hg⟩ : ∃ g, n / 50 = g := ⟨_, rfl⟩
            have hgi2 : ((n : Int) / 50).toNat = g := by omega
            obtain ⟨hP1, hP2, hP3⟩ := (HRT.out.2.1).tb HRT.out.1 HRT.out.2.2.1 (n := n) (by rw [HMP.out]; exact hpk2)
            obtain ⟨b3, o3, k3, he3, d3⟩ := (HR.out.row).cell (show n / 50 < (PkM.toI ps).length by rw [HM.out]; exact hpk2)
            rw [HM.out] at he3
            simp only [Value.slice.injEq] at he3
            obtain ⟨rfl, he3b, rfl⟩ := he3
            rw [PkM.toI_getD] at d3
            obtain ⟨P, hP⟩ : ∃ P, ps.getD (n / 50) 0 = P := ⟨_, rfl⟩
            rw [hP] at d3 hP1
            rw [hg] at d3
            obtain ⟨cg, cC, cb, eC, d4, hrs⟩ := (HR.out.sc rfl).at_ hP1
            simp only [Value.slice.injEq] at eC
            obtain ⟨rfl, rfl, rfl⟩ := eC
            have hPi : (P : Int) < (gs.length : Int) := by omega
            have htbi : CodM.tb gs ps n = gs.getD P [] := by unfold CodM.tb; rw [hP]
            rw [← htbi] at hrs
            have HRSW := Lib.hid hrs
            have HTN := Lib.hid hP2
            have HTW := Lib.hid hP3
            have HPK : Hid (n / 50 < ps.length) := Lib.hid (by rw [HMP.out]; exact hpk2)
            have HDB := Lib.hid (HD.out b hbq)
            rw [hts] at HDB
            have hbi : (b : Int) ≤ (S.size : Int) := by omega
            have HGT := Lib.hid (fun W (h : RowS W cb N (fun j => txt (code (CodM.tb gs ps n) j))) => rget_any cb N (CodM.tb gs ps n) (Q.drop b) W hP2 h258 hP3 h (by rw [List.length_drop]; omega))
            clear hpk hpk2 hg hP1 hP2 hP3 he3b hP htbi hrs
            go_wp2_with fail
            go_quiet (fail)
            have HHQ : Hid ((wr.drewN nq).heap[w.heap.size]? = some (.cells #[.slice none 0 0, .int .i64 0, .int .i64 0, .int .i64 0] 34 (0, 0))) := Lib.hid HH.out
            have HRQ := Lib.hid (HR.out.below ⟨rfl, rfl, rfl, Nat.le_refl _, fun _ _ => rfl⟩ : RdBx w (wr.drewN nq) N G G2 M (some ⟨b3, o3, none⟩) cu ps t k (some ⟨cg, 0, none⟩) gs.length c4 gs a 0)
            have HOQ : Hid (OwnI (wr.drewN nq) B (.slice aL n cL) L) := Lib.hid (HO.out.drewN nq)
            have HBQ2 : Hid (Below B W5 (wr.drewN nq)) := Lib.hid (HBR.out.trans ⟨rfl, rfl, rfl, Nat.le_refl _, fun _ _ => rfl⟩)
            have HSQ2 : Hid (B ≤ (wr.drewN nq).heap.size) := Lib.hid HBL.out.1
            have HRW := Lib.hid (HRSW.out.drewN nq)
            have HHQ2 := Lib.hid ((RdOut.err (Q := Q) (N := N) (most := most) (w := w) (w' := (wr.drewN nq).setRow w.heap.size #[.slice none 0 0, .int .i64 0, .int .i64 0, .int .i64 3]) (er := 3) (l := L) rfl · (below_setRow HRQ.out.bel (Nat.le_refl _) _)))
            have HHQ3 := Lib.hid ((RdOut.err (Q := Q) (N := N) (most := most) (w := w) (w' := (wr.drewN nq).setRow w.heap.size #[.slice none 0 0, .int .i64 0, .int .i64 0, .int .i64 2]) (er := 2) (l := []) rfl · (below_setRow HRQ.out.bel (Nat.le_refl _) _)))
            clear c0 c1 c2 d0 d1 d2 d3 d4 HR HO HH HBR
            obtain ⟨e0, e1, e2, f0, f1, f2⟩ := HRQ.out.cells
            generalize wr.drewN nq = wq at *
            go_wp2_with fail
            rw [HDB.out]
            refine (HGT.out _ HRW.out).mono ?_
            rintro e w8 ⟨x, rfl, hgr, hw8⟩
            obtain rfl := hw8.symm
            rcases hgr with ⟨i, hi1, hi2, rfl⟩ | ⟨hno, rfl⟩
            · have hgm : getM (CodM.tb gs ps n) (Q.drop b) = some i := getM_some HTW.out hi1 hi2
              obtain ⟨s1, s2, s3, s4, s5⟩ := HSY.out.2.2 i HPK.out hgm
              have hiN : i < N := s1
              have hi0 : ¬ (i : Int) < 0 := by omega
              have S4 := Lib.hid s4
              have S5 := Lib.hid s5
              rw [List.length_drop] at s3
              have HS3 : Hid (b + ln (CodM.tb gs ps n) i ≤ Q.length ∧ 1 ≤ ln (CodM.tb gs ps n) i) := Lib.hid ⟨by omega, s2⟩
              clear hi1 hi2 hgm s1 s2 s3 s4 s5 HGT HSY
              by_cases hnm : n = most
              · have hnmb : ((n : Int) == (most : Int)) = true := by rw [hnm]; simp
                have HRE := Lib.hid (HHQ3.out (S4.out hnm))
                have hbt := built_g14 2
                clear hnm
                go_wp2_with (first | (refine wpList_build_one rfl 34 3 _ rfl _ rfl _ hbt ?_) | (refine wpList_store_row rfl 34 _ _ rfl w.heap.size #[.slice none 0 0, .int .i64 0, .int .i64 0, .int .i64 2] rfl rfl 34 _ HHQ.out hi rfl (g14_all _ _ _ _ _ _) ?_))
                refine bodyPost_ret (v := .agg #[.slice none 0 0, .int .i64 0, .int .i64 0, .int .i64 2]) (results_cell_row rfl _ _ w.heap.size 34 _ (0, 0) _ rfl (setRow_heap _ _ _ _ _ _ HHQ.out) hu rfl hi) rfl HRE.out
              · have hnmb : ((n : Int) == (most : Int)) = false := by rw [beq_eq_false_iff_ne]; omega
                have hlt : n < most := by omega
                have HNX := Lib.hid (S5.out hlt)
                have hii : (i : Int) < (N : Int) := by omega
                have d5 := (HRW.out.cell hiN).1
                obtain ⟨X, hX⟩ : ∃ X, ln (CodM.tb gs ps n) i = X := ⟨_, rfl⟩
                obtain ⟨T5, hT5⟩ : ∃ T5, txt (code (CodM.tb gs ps n) i) = T5 := ⟨_, rfl⟩
                have hTz : (T5.size : Int) = (X : Int) := by rw [← hT5, txt_size, code_length, hX]
                rw [hT5] at d5
                rw [hX] at HNX HS3
                have hsum : (b : Int) + (X : Int) = ((b + X : Nat) : Int) := by omega
                obtain ⟨b2, hb2⟩ : ∃ b2, b + X = b2 := ⟨_, rfl⟩
                rw [hb2] at hsum HNX HS3
                have HX1 : Hid (n + 1 ≤ b2 ∧ b < b2) := Lib.hid (by have := HS3.out.2; omega)
                have hb2w : IntKind.i64.wrap (b2 : Int) = (b2 : Int) := IntWalk.i64_in _ (by have := HS3.out.1; omega)
                have hl1 : L.length + 1 ≤ 17592186044416 := by rw [HN.out]; omega
                have hns : (N : Int) - 1 = ((N - 1 : Nat) : Int) := by omega
                obtain ⟨N1, hN1⟩ : ∃ N1, N - 1 = N1 := ⟨_, rfl⟩
                rw [hN1] at hns
                have hN1w : IntKind.i64.wrap (N1 : Int) = (N1 : Int) := IntWalk.i64_in _ (by omega)
                have HNM : Hid (n + 1 ≤ 1000000) := Lib.hid (by omega)
                have HN1 := Lib.hid hN1
                clear hnm hlt hX hT5 hb2 hN1 S4 S5
                go_wp2_with (at_builtin; refine push_int wq rfl _ _ rfl B _ L (i : Int) HOQ.out rfl rfl hl1 HSQ2.out ?_)
                intro v3 w3 hO3 hB3
                have HO3 := Lib.hid hO3
                have HB3 : Hid (Below B W5 w3) := Lib.hid (HBQ2.out.trans hB3)
                have HR3 := Lib.hid (HX.out.1.below (by rw [HBE.out]; exact HB3.out))
                have HH3 := Lib.hid (((by rw [HBE.out]; exact HB3.out : Below W5.heap.size W5 w3).block _ (Array.getElem?_eq_some_iff.1 HX.out.2).1).trans HX.out.2)
                obtain ⟨a3, c3, rfl⟩ := hO3.slice
                obtain ⟨L3, hL3⟩ : ∃ L3, (L ++ [(i : Int)]).length = L3 := ⟨_, rfl⟩
                have HL3 := Lib.hid hL3
                have HL4 : Hid (L3 = n + 1) := Lib.hid (by rw [← hL3, List.length_append, HN.out]; rfl)
                rw [hL3] at HO3 ⊢
                have HOW3 : Hid (∀ j, (Value.slice a3 L3 c3).ownBlock = some j → w.heap.size < j ∧ j < w3.heap.size) := Lib.hid (fun j hj => by have h1 := HO3.out.lt j hj; have h2 := HBL.out.2; omega)
                clear hO3 hB3 e0 e1 e2 f0 f1 f2 d5 HRQ HHQ HOQ HBQ2 HSQ2 HRW HHQ2 HHQ3 hL3
                obtain ⟨e0, e1, e2, f0, f1, f2⟩ := HR3.out.cells
                by_cases hdn : i + 1 = N
                · have hdb : ((i : Int) == (N1 : Int)) = true := by rw [beq_iff_eq]; have := HN1.out; omega
                  have HFI := Lib.hid HNX.out
                  rw [decide_eq_true hdn] at HFI
                  have hfin : Hid (rdC Q N most = .ok (L ++ [(i : Int)]) b2) := Lib.hid (by obtain ⟨_, _, _, _, _, hif⟩ := HFI.out; rwa [if_pos rfl] at hif)
                  have HHC := Lib.hid (heldC_hd (N := N) HHD.out)
                  have hmul : (t : Int) * (N : Int) = ((t * N : Nat) : Int) := by simp
                  have htn : t * N ≤ 6 * 258 := Nat.mul_le_mul ht6 h258
                  obtain ⟨TN, hTN⟩ : ∃ TN, t * N = TN := ⟨_, rfl⟩
                  rw [hTN] at hmul htn HHC
                  have htnw : IntKind.i64.wrap (TN : Int) = (TN : Int) := IntWalk.i64_in _ (by omega)
                  have hm32 : M ≤ 32767 := by rw [← HMP.out]; exact HHD.out.2.2.2.2.2.1
                  have hs5 : (M : Int) + (TN : Int) = ((M + TN : Nat) : Int) := by omega
                  obtain ⟨HD5, hHD5⟩ : ∃ h, M + TN = h := ⟨_, rfl⟩
                  rw [hHD5] at hs5
                  have hs5w : IntKind.i64.wrap (HD5 : Int) = (HD5 : Int) := IntWalk.i64_in _ (by omega)
                  have HE5 : Hid (heldC Q N = HD5) := Lib.hid (by rw [HHC.out, HMP.out, hHD5])
                  have hbt := built_g14l a3 L3 c3 (b2 : Int) (HD5 : Int)
                  clear hdn hTN hHD5
                  go_wp2_with (first | (refine wpList_build_three rfl 34 0 1 2 _ _ _ rfl _ _ _ rfl rfl rfl _ hbt ?_) | (refine wpList_store_row rfl 34 _ _ rfl w.heap.size #[.slice a3 L3 c3, .int .i64 (b2 : Int), .int .i64 (HD5 : Int), .int .i64 0] rfl rfl 34 _ HH3.out hi rfl (g14_all _ _ _ _ _ _) ?_))
                  refine bodyPost_ret (v := .agg #[.slice a3 L3 c3, .int .i64 (b2 : Int), .int .i64 (HD5 : Int), .int .i64 0]) (results_cell_row rfl _ _ w.heap.size 34 _ (0, 0) _ rfl (setRow_heap _ _ _ _ _ _ HH3.out) hu rfl hi) rfl ⟨a3, L3, c3, L ++ [(i : Int)], b2, HD5, 0, rfl, HL3.out.symm, (HO3.out.setRow w.heap.size _ HBL.out.2).ints, by rw [← HE5.out]; exact RdD14.ok hfin.out, below_setRow HR3.out.bel (Nat.le_refl _) _, fun j hj => by have h5 := HOW3.out j hj; exact ⟨by omega, by rw [setRow_size]; exact h5.2⟩, by rw [HL3.out, HL4.out]; have h6 := HX1.out.1; have h7 := HS3.out.1; omega⟩
                · have hdb : ((i : Int) == (N1 : Int)) = false := by rw [beq_eq_false_iff_ne]; have := HN1.out; omega
                  have HFI := Lib.hid HNX.out
                  rw [decide_eq_false hdn, ← HL4.out] at HFI
                  clear hdn
                  go_wp2_with fail
                  go_roundw
                  case rel => exact ⟨b2, L ++ [(i : Int)], by go_num, HS3.out.1, by rw [HL3.out, HL4.out]; exact HX1.out.1, by rw [HL3.out]; exact HFI.out, HO3.out, HB3.out⟩
                  case measure => have := HX1.out.2; have := HS3.out.1; simp [intOf]; omega
            · have hgm : getM (CodM.tb gs ps n) (Q.drop b) = none := getM_no hno
              have HRE := Lib.hid (HHQ2.out (HSY.out.2.1 HPK.out hgm (by first | trivial | rfl)))
              have hbt := built_g14 3
              clear hno hgm HGT HSY
              go_wp2_with (first | (refine wpList_build_one rfl 34 3 _ rfl _ rfl _ hbt ?_) | (refine wpList_store_row rfl 34 _ _ rfl w.heap.size #[.slice none 0 0, .int .i64 0, .int .i64 0, .int .i64 3] rfl rfl 34 _ HHQ.out hi rfl (g14_all _ _ _ _ _ _) ?_))
              refine bodyPost_ret (v := .agg #[.slice none 0 0, .int .i64 0, .int .i64 0, .int .i64 3]) (results_cell_row rfl _ _ w.heap.size 34 _ (0, 0) _ rfl (setRow_heap _ _ _ _ _ _ HHQ.out) hu rfl hi) rfl HRE.out
      · have HRE : Hid (rdC Q N most = .err er4 []) := Lib.hid (by
          rcases HT4.out with ⟨h, _⟩ | ⟨_, h⟩
          · exact absurd h her
          · rw [HRC.out, h]; rfl)
        have hbt := built_g14 er4
        have hne : ((er4 : Int) != 0) = true := by simp [her]
        clear her
        go_wp2_with (first | (refine wpList_build_one rfl 34 3 _ rfl _ rfl _ hbt ?_) | (refine wpList_store_row rfl 34 _ _ rfl w.heap.size #[.slice none 0 0, .int .i64 0, .int .i64 0, .int .i64 er4] rfl rfl 34 _ HX.out.2 hi rfl (g14_all _ _ _ _ _ _) ?_))
        refine bodyPost_ret (v := .agg #[.slice none 0 0, .int .i64 0, .int .i64 0, .int .i64 er4]) (results_cell_row rfl _ _ w.heap.size 34 _ (0, 0) _ rfl (setRow_heap _ _ _ _ _ _ HX.out.2) hu rfl hi) rfl (RdOut.err rfl HRE.out (below_setRow HX.out.1.bel (Nat.le_refl _) _))
end Go.Proofs.YtojphcoghbiepaaGreatDoor
namespace Go.Proofs.YtojphcoghbiepaaGreatDoor
open Go.RowKit BitM HufM CanM CodM TabM FreqM
set_option linter.unusedVariables false
def SmOut (Q : List Bool) (N most : Nat) (w : World) (e : Ending) (w' : World) : Prop :=
  ∃ (ad : Option Addr) (m c : Nat) (ls : List Int), e = .returned (.slice ad m c) ∧ m = ls.length ∧ IsInts w' (.slice ad m c) ls ∧ ls = CodM.lst (rdC Q N most) ∧ Below w.heap.size w w' ∧ (∀ j, (Value.slice ad m c).ownBlock = some j → w.heap.size ≤ j ∧ j < w'.heap.size) ∧ ls.length ≤ Q.length
theorem SmOut.none {Q : List Bool} {N most : Nat} {w w' : World} {er : Int} (h : rdC Q N most = .err er []) (hb : Below w.heap.size w w') : SmOut Q N most w (.returned (.slice none 0 0)) w' :=
  ⟨Option.none, 0, 0, [], rfl, rfl, IsInts.nil _, by rw [h]; rfl, hb, fun j hj => absurd hj (by simp [Value.ownBlock]), Nat.zero_le _⟩
theorem SmOut.own {Q : List Bool} {N most B n : Nat} {w w' : World} {a : Option Addr} {c : Nat} {L : List Int} (hn : L.length = n) (hq : n ≤ Q.length) (hO : OwnI w' B (.slice a n c) L) (hB : w.heap.size ≤ B) (h : L = CodM.lst (rdC Q N most)) (hb : Below w.heap.size w w') : SmOut Q N most w (.returned (.slice a n c)) w' :=
  ⟨a, n, c, L, rfl, hn.symm, hO.ints, h, hb, fun j hj => by have := hO.lt j hj; omega, by omega⟩
end Go.Proofs.YtojphcoghbiepaaGreatDoor
namespace Go.Proofs.YtojphcoghbiepaaGreatDoor
open Go.ChangeShapes Go.WideShapes Go.RowKit
theorem int_cell {H : Type} {enc : TypeId × Value → H} {P : Program} {w : World} {base : Nat} {sp : Nat → Bool} {held : Bool} {fuel : Nat} {t : TypeId} {k : IntKind} {cs : List Value} {y : DataW H × List MemPlace} {n : Int}
    (ht : P.underlying t = some (.int k)) (h : DataW.trod enc P w base sp held fuel t cs = some y) (hy : y.1 = .lit (.int k n)) : cs = [.int k n] := by
  obtain ⟨m, rfl, e, _⟩ := DataW.trod_int ht h
  rw [e] at hy
  simp at hy
  rw [hy]
/-- A table of whole numbers: its cells, all of them. -/
theorem table_all {H : Type} {enc : TypeId × Value → H} {P : Program} {w : World} {base : Nat} {sp : Nat → Bool} {held : Bool} {fuel n : Nat} {t e : TypeId} {k : IntKind} {cs : List Value} {ps : List MemPlace} {ns : List Int}
    (ht : P.underlying t = some (.array n e)) (he : P.underlying e = some (.int k)) (hc : P.cellsOf e = 1) (hct : P.cellsOf t = ns.length)
    (h : DataW.trod enc P w base sp held fuel t cs = some (.agg (ns.map fun x => .lit (.int k x)), ps)) : cs = ns.map fun x => .int k x := by
  obtain ⟨xs, m, hx0, hx, hl, hn, hel⟩ := DataW.trod_array ht h
  simp only [Prod.mk.injEq, DataW.agg.injEq] at hx
  have hlen : xs.length = ns.length := by
    have := congrArg List.length hx.1
    simpa using this.symm
  apply List.ext_getElem?
  intro j
  by_cases hj : j < ns.length
  · have h1 := hel j (by omega)
    have hxj : xs[j]? = some (xs[j]'(by omega)) := List.getElem?_eq_getElem _
    rw [hxj, hc] at h1
    have hnj : ns[j]? = some ns[j] := List.getElem?_eq_getElem hj
    have h2 := int_cell (n := ns[j]) he h1 (by
      have := congrArg (fun l => l[j]?) hx.1
      simp only [List.getElem?_map, hnj, hxj, Option.map_some, Option.some.injEq] at this
      exact this.symm)
    have h3 := congrArg (fun l => l[0]?) h2
    rw [List.getElem?_map, hnj]
    simpa using h3
  · rw [List.getElem?_eq_none (by omega), List.getElem?_eq_none (by simp; omega)]
theorem bounds_of_laid {W : World} (h : laidMetH Tryz.prog [("baler/tables.bounds", Rows.laid_baler_tables_bounds)] W) : Bnds W := by
  rw [MakeChecks.laidMetH_plain _ _ _ (by kernel_rfl)] at h
  obtain ⟨ps, ⟨g0, t0, cs0, f0, p0, q0, hg0, ht0, hv0, hd0, _, _⟩, _, _⟩ := h
  have e0 : some g0 = some 1 := hg0.symm.trans (by kernel_rfl)
  obtain rfl : g0 = 1 := Option.some.inj e0
  have e1 : some t0 = some 295 := ht0.symm.trans (by kernel_rfl)
  obtain rfl : t0 = 295 := Option.some.inj e1
  have hc := table_all (ns := [200, 600, 1200, 2400]) Tryz.underlying295 Tryz.underlying3 (by kernel_rfl) (by kernel_rfl) hd0
  simp only [World.var?, hg0, Option.bind_some] at hv0
  split at hv0
  · rename_i cs t fr hh
    have hcs : cs = bndCells := by
      have : cs = cs0 := by simpa using hv0
      rw [this]
      apply Array.toList_inj.1
      exact hc
    exact ⟨t, fr, by rw [← hcs]; exact hh⟩
  · cases hv0
end Go.Proofs.YtojphcoghbiepaaGreatDoor
namespace Go.Proofs.YtojphcoghbiepaaGreatDoor
open Go.RowKit BitM HufM CanM CodM TabM FreqM
set_option linter.unusedVariables false
theorem rdp_le {Q : List Bool} {N most n held : Nat} {ls : List Int} {er : Int} (h : RdD14 Q N most ls n held er) : ∀ {l2 e2 k2}, RdP14 Q N most l2 e2 k2 → l2 = ls ∧ e2 = er ∧ k2 = n := by
  intro l2 e2 k2 h2
  unfold RdD14 at h
  unfold RdP14 at h2
  cases hr : rdC Q N most with
  | ok l k =>
    rw [hr] at h h2
    exact ⟨h2.1.trans h.1.symm, h2.2.1.trans h.2.2.2.symm, h2.2.2.trans h.2.1.symm⟩
  | err e l =>
    rw [hr] at h h2
    exact ⟨h2.1.trans h.1.symm, h2.2.1.trans h.2.2.2.symm, h2.2.2.trans h.2.1.symm⟩
set_option maxRecDepth 100000 in
set_option maxHeartbeats 8000000 in
theorem codeReads.good (s : ByteArray) (a N most : Nat) (w : World) (hB : Bnds w) (hs : s.size ≤ 200) (ha : a ≤ 8 * s.size) (h3 : 3 ≤ N) (h258 : N ≤ 258) (hmw : most ≤ 9223372036854775807) :
    Calls Tryz.prog 3 #[.string s, .int .i64 (a : Int), .agg #[.int .i64 (N : Int), .int .i64 (most : Int)]] w fun e w' => e = .returned (.bool true) ∧ Below w.heap.size w w' := by
  have HBN := Lib.hid hB
  have H2 := Lib.hid (fun W (h : Bnds W) => codTwo_any W h)
  obtain ⟨c0, c1⟩ := PairI.boxed w (N : Int) (most : Int)
  have HB0 := Lib.hid ((Below.refl w.heap.size w).alloc (Nat.le_refl _) (.cells #[.int .i64 (N : Int), .int .i64 (most : Int)] 22))
  have hll : s.data.toList.length = s.size := rfl
  have HLL := Lib.hid hll
  have h1 : ¬ (200 : Int) < (s.size : Int) := by omega
  have h2 : ¬ 8 * (s.size : Int) < (a : Int) := by omega
  have hm0 : ¬ (most : Int) < 0 := by omega
  have HBT := Lib.hid (fun W => bitsTxt_any s W (by omega))
  have hBL : (bitsOf s.data.toList).length = 8 * s.size := by rw [bitsOf_length, hll]
  have HTD := Lib.hid (txt_drop (bitsOf s.data.toList) a (by omega))
  have hts : (txt (bitsOf s.data.toList)).size = 8 * s.size := by rw [txt_size, hBL]
  have hQl : ((bitsOf s.data.toList).drop a).length ≤ 1600 := by rw [List.length_drop]; omega
  have HQL := Lib.hid hQl
  have HRR := Lib.hid (fun W => rread14_any ((bitsOf s.data.toList).drop a) N most W (by omega) h3 h258)
  have hal : (a : Int) ≤ ((txt (bitsOf s.data.toList)).size : Int) := by omega
  have hab : (txt (bitsOf s.data.toList)).size ≤ 1600 := by omega
  have HSZ := Lib.hid (fun W => rSize_any (N : Int) true W ⟨fun _ => by omega, fun _ => rfl⟩)
  have HN3 : Hid (3 ≤ N ∧ N ≤ 258) := Lib.hid ⟨h3, h258⟩
  generalize hS : txt (bitsOf s.data.toList) = S at *
  clear hB hll hBL hQl hts hS h3 h258
  go_enter Tryz.func3, Tryz.ntmps3
  go_wp2_with fail
  generalize w.alloc (.cells #[.int .i64 (N : Int), .int .i64 (most : Int)] 22) = w0 at *
  refine (newReader_any s w0 (by unfold maxLen; omega)).mono ?_
  rintro e w1 ⟨b, v1, rfl, hr1, hb1, hf1⟩
  have HR1 := Lib.hid hr1
  have HB1 := Lib.hid (HB0.out.trans (hb1.mono HB0.out.size))
  have HF1 : Hid (w.heap.size ≤ b) := Lib.hid (Nat.le_trans HB0.out.size (hf1 b (Or.inl rfl)))
  clear hr1 hb1 hf1 c0 c1
  go_wp2_with fail
  refine (seek_yes b v1 _ 0 0 0 a w1 HR1.out (by have := HLL.out; omega) (by omega) (by have := HLL.out; omega)).mono ?_
  rintro e w2 ⟨rfl, hr2, ht2⟩
  have HR2 := Lib.hid hr2
  have HB2 := Lib.hid (HB1.out.trans (ht2.below HB1.out.size (fun i hi => by have h1 := HF1.out; have h2 : i = b := hi; omega)))
  clear hr2 ht2
  go_wp2_with fail
  refine (cread_any b N most v1 _ 0 0 a w2 HR2.out (by have := HLL.out; omega) HN3.out.1 HN3.out.2 (by have := HLL.out; omega)).mono ?_
  rintro e w3 ⟨u, ls, er, k, rfl, hi3, hp3, hr3, ht3⟩
  have HP3 : Hid (RdP14 ((bitsOf s.data.toList).drop a) N most ls er k) := Lib.hid hp3
  have HI3 := Lib.hid hi3
  have HR3 := Lib.hid hr3
  have HB3 := Lib.hid (HB2.out.trans (ht3.below HB2.out.size (fun i hi => by have h1 := HF1.out; have h2 : i = b := hi; omega)))
  clear hi3 hp3 hr3 ht3
  go_wp2_with fail
  refine (HSZ.out _).mono ?_
  rintro e w4 ⟨rfl, hw4⟩
  obtain rfl := hw4.symm
  go_wp2_with fail
  refine (HBT.out _).mono ?_
  rintro e w5 ⟨rfl, hw5⟩
  obtain rfl := hw5.symm
  go_wp2_with fail
  rw [HTD.out]
  refine (HRR.out _).mono ?_
  rintro e w6 ⟨ad, m6, c6, ls2, n2, held2, er2, rfl, hm6, hi6, hp6, hb6, _, hl6⟩
  obtain ⟨rfl, rfl, rfl⟩ := rdp_le hp6 HP3.out
  have HM6 := Lib.hid hm6
  have HI6 := Lib.hid hi6
  have HI36 := Lib.hid (HI3.out.below hb6)
  have HR6 := Lib.hid (HR3.out.other (Touch.ofBelow (S := fun _ => False) hb6) (fun _ _ h => h))
  have HB6 := Lib.hid (HB3.out.trans (hb6.mono HB3.out.size))
  have hb7 := (Below.refl w6.heap.size w6).alloc (Nat.le_refl _) (.cells #[.slice ad m6 c6, .int .i64 (k : Int), .int .i64 (held2 : Int), .int .i64 er] 34)
  have HI7 := Lib.hid (HI6.out.below hb7)
  have HI37 := Lib.hid (HI36.out.below hb7)
  have HR7 := Lib.hid (HR6.out.other (Touch.ofBelow (S := fun _ => False) hb7) (fun _ _ h => h))
  have HB7 := Lib.hid (HB6.out.trans (hb7.mono HB6.out.size))
  have hg7 := heap_alloc_new w6 (.cells #[.slice ad m6 c6, .int .i64 (k : Int), .int .i64 (held2 : Int), .int .i64 er] 34)
  have HBN7 := Lib.hid (HBN.out.below HB7.out)
  clear hb7 HI6 HI36 HR6 hm6 hi6 hp6 hb6
  go_upto_region 11 with fail
  generalize hW7 : w6.alloc (.cells #[.slice ad m6 c6, .int .i64 (k : Int), .int .i64 (held2 : Int), .int .i64 er] 34) = W7 at *
  generalize hG : w6.heap.size = G at *
  have d0 : W7.cell? ⟨G, 0, none⟩ = some (.slice ad m6 c6) := by rw [cell_of_row _ _ _ _ _ _ hg7]; rfl
  have d1 : W7.cell? ⟨G, 1, none⟩ = some (.int .i64 (k : Int)) := by rw [cell_of_row _ _ _ _ _ _ hg7]; rfl
  have d3 : W7.cell? ⟨G, 3, none⟩ = some (.int .i64 er) := by rw [cell_of_row _ _ _ _ _ _ hg7]; rfl
  have hlt : G < W7.heap.size := (Array.getElem?_eq_some_iff.1 hg7).1
  have q0 : ∀ sb : Beneath W7.heap.size W7, sb.val.cell? ⟨G, 0, none⟩ = some (.slice ad m6 c6) := fun sb => Beneath.cell d0 hlt sb
  have q1 : ∀ sb : Beneath W7.heap.size W7, sb.val.cell? ⟨G, 1, none⟩ = some (.int .i64 (k : Int)) := fun sb => Beneath.cell d1 hlt sb
  have q3 : ∀ sb : Beneath W7.heap.size W7, sb.val.cell? ⟨G, 3, none⟩ = some (.int .i64 er) := fun sb => Beneath.cell d3 hlt sb
  have hzi : Hid (ls.length ≤ 9223372036854775807) := Lib.hid (by have := HQL.out; omega)
  obtain ⟨P, hP⟩ : ∃ P, a + k = P := ⟨_, rfl⟩
  rw [hP] at HR7
  have hPi : (a : Int) + (k : Int) = (P : Int) := by omega
  have hPw : Hid (IntKind.i64.wrap ((a : Int) + (k : Int)) = (P : Int)) := Lib.hid (by rw [hPi]; exact IntWalk.i64_in _ (by have h5 := HR7.out.2.2.2.2; have h6 := HLL.out; omega))
  have HIB : Hid (∀ sb : Beneath W7.heap.size W7, IsInts sb.val u ls ∧ IsInts sb.val (.slice ad m6 c6) ls ∧ IsReader sb.val b v1 s.data.toList 0 0 P ∧ Bnds sb.val) := Lib.hid (fun sb => ⟨HI37.out.below sb.is, HI7.out.below sb.is, HR7.out.other (Touch.ofBelow (S := fun _ => False) sb.is) (fun _ _ h => h), HBN7.out.below sb.is⟩)
  have hPw := hPw.out
  have z1 : (er == er) = true := by simp
  have z2 : ((P : Int) == (P : Int)) = true := by simp
  clear hg7 hW7 hP hPi
  refine wp_region_beneath W7.heap.size W7 (Below.refl _ _) (by kernel_rfl) (by kernel_rfl) ?_
  repeat (go_big_quiet_step (first
    | (go_at_call 12; rename_i sb; exact Calls.beneath sb (Nat.le_refl _) (H2.out _ (HIB.out sb).2.2.2))
    | (go_at_call 17; rename_i sb; exact Calls.beneath_same sb (rat_any b v1 _ 0 0 P _ (HIB.out sb).2.2.1))
    | (go_at_call 20; rename_i sb; exact Calls.beneath sb (Nat.le_refl _) ((ints_any _ _ ls ls true _ (HIB.out sb).1 (HIB.out sb).2.1 ⟨fun _ => rfl, fun _ => rfl⟩ hzi.out hzi.out).mono (by rintro e w' ⟨rfl, m, rfl⟩; exact ⟨rfl, below_drewN _ m⟩)))))
  refine wpQuiet_nil ?_
  rintro _ ⟨sb, rfl⟩
  have HB8 := Lib.hid (HB7.out.trans (sb.is.mono HB7.out.size))
  clear HIB q0 q1 q3
  generalize sb.val = W8 at *
  go_wp2_with fail
  go_ret
  exact ⟨rfl, HB8.out⟩
theorem codeReads.walk (s : ByteArray) (a q0 q1 : Int) (w : World) (hB : Bnds w) (hs : s.size ≤ maxLen) (_ : (Lit.int .i64 a).wf = true) (hq : (Lit.int .i64 q0).wf = true ∧ (Lit.int .i64 q1).wf = true) :
    Calls Tryz.prog 3 #[.string s, .int .i64 a, .agg #[.int .i64 q0, .int .i64 q1]] w fun e w' => e = .returned (.bool true) ∧ Below w.heap.size w w' := by
  by_cases h : 200 < s.size ∨ a < 0 ∨ 8 * (s.size : Int) < a
  · exact codeReads.far s a q0 q1 w hB hs h
  · obtain ⟨A, rfl⟩ : ∃ A : Nat, a = (A : Int) := ⟨a.toNat, by omega⟩
    by_cases h2 : ¬ (3 ≤ q0 ∧ q0 ≤ 258) ∨ q1 < 0
    · exact codeReads.arg s A q0 q1 w hB (by omega) (by omega) h2
    · obtain ⟨N, rfl⟩ : ∃ N : Nat, q0 = (N : Int) := ⟨q0.toNat, by omega⟩
      obtain ⟨M, rfl⟩ : ∃ M : Nat, q1 = (M : Int) := ⟨q1.toNat, by omega⟩
      have h5 := (wf_i64 hq.2).2
      exact codeReads.good s A N M w hB (by omega) (by omega) (by omega) (by omega) (by omega)
end Go.Proofs.YtojphcoghbiepaaGreatDoor
namespace Go.Proofs.YtojphcoghbiepaaGreatDoor
open Go.RowKit BitM
set_option linter.unusedVariables false
theorem ext_dataD (t : ByteArray) (n : Nat) : (t.extract n t.size).data.toList = t.data.toList.drop n := by
  have e : t.size = t.data.toList.length := rfl
  rw [ByteArray.data_extract, e]
  simp only [Array.toList_extract, List.extract_eq_take_drop]
  rw [List.take_of_length_le (by simp)]
theorem ext_takeD (s : ByteArray) (c : Nat) : (s.extract 0 c).data.toList = s.data.toList.take c := by
  rw [ByteArray.data_extract]
  simp only [Array.toList_extract, List.extract_eq_take_drop, List.drop_zero, Nat.sub_zero]
/-- The bytes that are there. -/
def cm (come : Bool) (S : List UInt8) (c : Nat) : List UInt8 := if come then S else S.take c
def rest (come : Bool) (S : List UInt8) (c : Nat) : List Bool := if come then [] else bitsOf (S.drop c)
theorem cm_rest (come : Bool) (S : List UInt8) (c a : Nat) (ha : a ≤ 8 * (cm come S c).length) : (bitsOf S).drop a = (bitsOf (cm come S c)).drop a ++ rest come S c := by
  cases come with
  | true => simp [cm, rest]
  | false =>
    have e : bitsOf S = bitsOf (S.take c) ++ bitsOf (S.drop c) := by rw [← bitsOf_append, List.take_append_drop]
    show (bitsOf S).drop a = (bitsOf (S.take c)).drop a ++ bitsOf (S.drop c)
    rw [e, List.drop_append_of_le_length (by rw [bitsOf_length]; exact ha)]
theorem cm_len (come : Bool) (S : List UInt8) (c : Nat) : (cm come S c).length ≤ S.length := by
  cases come with
  | true => exact Nat.le_refl _
  | false => show (S.take c).length ≤ _; rw [List.length_take]; omega
theorem cm_more (S : List UInt8) (c : Nat) : cm false S c ++ S.drop c = cm true S c := List.take_append_drop c S
end Go.Proofs.YtojphcoghbiepaaGreatDoor
namespace Go.Proofs.YtojphcoghbiepaaGreatDoor
open Go.RowKit BitM HufM CanM CodM TabM FreqM
set_option linter.unusedVariables false
set_option maxRecDepth 100000 in
set_option maxHeartbeats 2000000 in
theorem codeSteps.far (s : ByteArray) (c z : Int) (w : World) (hB : Bnds w) (hs : s.size ≤ maxLen) (h : 120 < s.size ∨ c < 0 ∨ (s.size : Int) < c ∨ ¬ (3 ≤ z ∧ z ≤ 258)) :
    Calls Tryz.prog 4 #[.string s, .int .i64 c, .int .i64 z] w fun e w' => e = .returned (.bool true) ∧ Below w.heap.size w w' := by
  have H2 := Lib.hid (codTwo_any w hB)
  unfold maxLen at hs
  clear hB
  by_cases h1 : (120 : Int) < (s.size : Int)
  · clear h
    go_enter Tryz.func4, Tryz.ntmps4
    go_wp2_with fail
    refine H2.out.mono ?_
    rintro e w9 ⟨rfl, hb9⟩
    have HB9 := Lib.hid hb9
    clear hb9
    go_wp2_with fail
    go_ret
    exact ⟨rfl, HB9.out⟩
  · by_cases h2 : c < 0
    · clear h
      go_enter Tryz.func4, Tryz.ntmps4
      go_wp2_with fail
      refine H2.out.mono ?_
      rintro e w9 ⟨rfl, hb9⟩
      have HB9 := Lib.hid hb9
      clear hb9
      go_wp2_with fail
      go_ret
      exact ⟨rfl, HB9.out⟩
    · by_cases h3 : (s.size : Int) < c
      · clear h
        go_enter Tryz.func4, Tryz.ntmps4
        go_wp2_with fail
        refine H2.out.mono ?_
        rintro e w9 ⟨rfl, hb9⟩
        have HB9 := Lib.hid hb9
        clear hb9
        go_wp2_with fail
        go_ret
        exact ⟨rfl, HB9.out⟩
      · have hz : ¬ (3 ≤ z ∧ z ≤ 258) := by
          rcases h with h | h | h | h
          · omega
          · exact absurd h h2
          · exact absurd h h3
          · exact h
        have HSZ := Lib.hid (fun W => rSize_any z false W ⟨fun e => (by cases e), fun h => absurd h hz⟩)
        clear h hz
        go_enter Tryz.func4, Tryz.ntmps4
        go_wp2_with fail
        refine (HSZ.out _).mono ?_
        rintro e w8 ⟨rfl, hw8⟩
        obtain rfl := hw8.symm
        go_wp2_with fail
        refine H2.out.mono ?_
        rintro e w9 ⟨rfl, hb9⟩
        have HB9 := Lib.hid hb9
        clear hb9
        go_wp2_with fail
        go_ret
        exact ⟨rfl, HB9.out⟩
/-- What the document tells: symbols, how many bits, how much is kept, an error. -/
structure GC where
  ls : List Int
  n : Nat
  held : Nat
  err : Int
/-- What the loop of CodeSteps knows of the world, but for the code's reader. -/
structure StC (w wr : World) (rb G B a : Nat) (O : Nat → Prop) (v1 u vl : Value) (lc : List UInt8) (L : List Int) (g : GC) : Prop where
  rdr : IsReader wr rb v1 lc 0 0 a
  sep : ∀ k, foot rb v1 k → ¬ O k
  fr : ∀ k, foot rb v1 k → w.heap.size ≤ k ∧ k ≠ G ∧ u.ownBlock ≠ some k ∧ vl.ownBlock ≠ some k
  fo : ∀ k, O k → w.heap.size ≤ k ∧ k ≠ G ∧ u.ownBlock ≠ some k ∧ vl.ownBlock ≠ some k ∧ k < wr.heap.size
  ub : ∀ j, u.ownBlock = some j → j < B
  got : wr.heap[G]? = some (.cells #[u, .int .i64 (g.n : Int), .int .i64 (g.held : Int), .int .i64 g.err] 34 (0, 0))
  gb : G < B ∧ w.heap.size ≤ B ∧ B ≤ wr.heap.size
  row : IsInts wr u g.ls
  own : OwnI wr B vl L
  bel : Below w.heap.size w wr
  bnd : Bnds wr
section
variable {w wr w2 : World} {rb G B a : Nat} {O : Nat → Prop} {v1 u vl : Value} {lc : List UInt8} {L : List Int} {g : GC}
theorem StC.lt (h : StC w wr rb G B a O v1 u vl lc L g) : G < wr.heap.size := (Array.getElem?_eq_some_iff.1 h.got).1
theorem StC.cells (h : StC w wr rb G B a O v1 u vl lc L g) : wr.cell? ⟨G, 0, none⟩ = some u ∧ wr.cell? ⟨G, 1, none⟩ = some (.int .i64 (g.n : Int)) ∧ wr.cell? ⟨G, 2, none⟩ = some (.int .i64 (g.held : Int)) ∧ wr.cell? ⟨G, 3, none⟩ = some (.int .i64 g.err) := by
  refine ⟨?_, ?_, ?_, ?_⟩ <;> (rw [cell_of_row _ _ _ _ _ _ h.got]; rfl)
theorem StC.below (h : StC w wr rb G B a O v1 u vl lc L g) (hb : Below wr.heap.size wr w2) : StC w w2 rb G B a O v1 u vl lc L g :=
  ⟨h.rdr.other (Touch.ofBelow (S := fun _ => False) hb) (fun _ _ h => h), h.sep, h.fr, fun k hk => ⟨(h.fo k hk).1, (h.fo k hk).2.1, (h.fo k hk).2.2.1, (h.fo k hk).2.2.2.1, Nat.lt_of_lt_of_le (h.fo k hk).2.2.2.2 hb.size⟩, h.ub, (hb.block G h.lt).trans h.got, ⟨h.gb.1, h.gb.2.1, Nat.le_trans h.gb.2.2 hb.size⟩, h.row.below hb, h.own.same (fun k hk => hb.block k (h.own.lt k hk).2), h.bel.trans (hb.mono h.bel.size), h.bnd.below hb⟩
theorem StC.drewN (h : StC w wr rb G B a O v1 u vl lc L g) (m : Nat) : StC w (wr.drewN m) rb G B a O v1 u vl lc L g := h.below ⟨rfl, rfl, rfl, Nat.le_refl _, fun _ _ => rfl⟩
theorem bnds_touch {w w' : World} {S : Nat → Prop} (h : Bnds w) (ht : Touch S w w') {B : Nat} (hB : ∀ k, S k → B ≤ k) (hb : 1 < B) : Bnds w' := by
  obtain ⟨t, fr, hg⟩ := h
  exact ⟨t, fr, (ht.block _ (Array.getElem?_eq_some_iff.1 hg).1 (fun e => by have := hB _ e; omega)).trans hg⟩
theorem StC.step (h : StC w wr rb G B a O v1 u vl lc L g) (hw : Bnds w) {a2 : Nat} {O2 : Nat → Prop} (hr : IsReader w2 rb v1 lc 0 0 a2) (ht : Touch (fun k => O k ∨ k = rb) wr w2) (hf : ∀ k, O2 k → O k ∨ wr.heap.size ≤ k) : StC w w2 rb G B a2 (fun k => O2 k ∧ k < w2.heap.size) v1 u vl lc L g := by
  have hG := h.lt
  have hrl := h.rdr.lt
  have hgb := h.gb
  have hG2 : ¬ (O G ∨ G = rb) := by
    rintro (e | e)
    · exact (h.fo G e).2.1 rfl
    · exact (h.fr rb (Or.inl rfl)).2.1 e.symm
  have hge : ∀ k, (O k ∨ k = rb) → w.heap.size ≤ k := fun k hk => by
    rcases hk with e | e
    · exact (h.fo k e).1
    · rw [e]; exact (h.fr rb (Or.inl rfl)).1
  obtain ⟨t0, f0, hw0⟩ := hw
  refine ⟨hr, fun k hk hh => ?_, h.fr, fun k hk => ?_, h.ub, (ht.block G hG hG2).trans h.got, ⟨hgb.1, hgb.2.1, Nat.le_trans hgb.2.2 ht.size⟩, h.row.other ht (fun k hk hh => ?_), h.own.same (fun k hk => ht.block k (h.own.lt k hk).2 (fun hh => ?_)), h.bel.trans (ht.below h.bel.size hge), bnds_touch h.bnd ht hge (Array.getElem?_eq_some_iff.1 hw0).1⟩
  · rcases hf k hh.1 with e | e
    · exact h.sep k hk e
    · have := hrl k hk
      omega
  · rcases hf k hk.1 with e | e
    · exact ⟨(h.fo k e).1, (h.fo k e).2.1, (h.fo k e).2.2.1, (h.fo k e).2.2.2.1, hk.2⟩
    · refine ⟨by omega, by omega, fun hh => ?_, fun hh => ?_, hk.2⟩
      · have := h.ub k hh
        omega
      · have := (h.own.lt k hh).2
        omega
  · rcases hh with e | e
    · exact (h.fo k e).2.2.1 hk
    · exact (h.fr rb (Or.inl rfl)).2.2.1 (e ▸ hk)
  · rcases hh with e | e
    · exact (h.fo k e).2.2.2.1 hk
    · exact (h.fr rb (Or.inl rfl)).2.2.2 (e ▸ hk)
theorem StC.push (h : StC w wr rb G B a O v1 u vl lc L g) (hw : Bnds w) {v2 : Value} {L2 : List Int} (hO2 : OwnI w2 B v2 L2) (hT2 : Touch (fun k => vl.ownBlock = some k) wr w2) (hfr : ∀ k, v2.ownBlock = some k → vl.ownBlock = some k ∨ wr.heap.size ≤ k) : StC w w2 rb G B a O v1 u v2 lc L2 g := by
  have hG := h.lt
  have hrl := h.rdr.lt
  have hgb := h.gb
  have hge : ∀ k, vl.ownBlock = some k → w.heap.size ≤ k := fun k hk => by have := (h.own.lt k hk).1; omega
  obtain ⟨t0, f0, hw0⟩ := hw
  refine ⟨h.rdr.other hT2 (fun k hk hh => (h.fr k hk).2.2.2 hh), h.sep, fun k hk => ?_, fun k hk => ?_, h.ub, (hT2.block G hG (fun hh => by have := (h.own.lt G hh).1; omega)).trans h.got, ⟨hgb.1, hgb.2.1, Nat.le_trans hgb.2.2 hT2.size⟩, h.row.other hT2 (fun k hk hh => by have h1 := h.ub k hk; have h2 := (h.own.lt k hh).1; omega), hO2, h.bel.trans (hT2.below h.bel.size hge), bnds_touch h.bnd hT2 hge (Array.getElem?_eq_some_iff.1 hw0).1⟩
  · refine ⟨(h.fr k hk).1, (h.fr k hk).2.1, (h.fr k hk).2.2.1, fun hh => ?_⟩
    rcases hfr k hh with e | e
    · exact (h.fr k hk).2.2.2 e
    · have := hrl k hk
      omega
  · have h1 := h.fo k hk
    refine ⟨h1.1, h1.2.1, h1.2.2.1, fun hh => ?_, Nat.lt_of_lt_of_le h1.2.2.2.2 hT2.size⟩
    rcases hfr k hh with e | e
    · exact h1.2.2.2.1 e
    · omega
theorem StC.more (h : StC w wr rb G B a O v1 u vl lc L g) (hw : Bnds w) {v3 : Value} {lc2 : List UInt8} (hr : IsReader w2 rb v3 lc2 0 0 a) (ht : Touch (foot rb v1) wr w2) (ho : ∀ k, v3.ownBlock = some k → v1.ownBlock = some k ∨ wr.heap.size ≤ k) : StC w w2 rb G B a O v3 u vl lc2 L g := by
  have hG := h.lt
  have hgb := h.gb
  have hge : ∀ k, foot rb v1 k → w.heap.size ≤ k := fun k hk => (h.fr k hk).1
  obtain ⟨t0, f0, hw0⟩ := hw
  have hnew : ∀ k, foot rb v3 k → foot rb v1 k ∨ wr.heap.size ≤ k := fun k hk => by
    rcases hk with rfl | hk
    · exact Or.inl (Or.inl rfl)
    · rcases ho k hk with e | e
      · exact Or.inl (Or.inr e)
      · exact Or.inr e
  refine ⟨hr, fun k hk hh => ?_, fun k hk => ?_, fun k hk => ⟨(h.fo k hk).1, (h.fo k hk).2.1, (h.fo k hk).2.2.1, (h.fo k hk).2.2.2.1, Nat.lt_of_lt_of_le (h.fo k hk).2.2.2.2 ht.size⟩, h.ub, (ht.block G hG (fun hh => (h.fr G hh).2.1 rfl)).trans h.got, ⟨hgb.1, hgb.2.1, Nat.le_trans hgb.2.2 ht.size⟩, h.row.other ht (fun k hk hh => (h.fr k hh).2.2.1 hk), h.own.same (fun k hk => ht.block k (h.own.lt k hk).2 (fun hh => (h.fr k hh).2.2.2 hk)), h.bel.trans (ht.below h.bel.size hge), bnds_touch h.bnd ht hge (Array.getElem?_eq_some_iff.1 hw0).1⟩
  · rcases hnew k hk with e | e
    · exact h.sep k e hh
    · have := (h.fo k hh).2.2.2.2
      omega
  · rcases hnew k hk with e | e
    · exact h.fr k e
    · refine ⟨by omega, by omega, fun hh => ?_, fun hh => ?_⟩
      · have := h.ub k hh
        omega
      · have := (h.own.lt k hh).2
        omega
end
theorem held_is {Q : List Bool} {N most a : Nat} {L : List Int} {c : CSt} (h : RtC Q N most a L c) (hd : c.done = true) : heldC Q N = c.held N := by
  cases c with
  | fields => cases hd
  | pick t n ps o => cases hd
  | len t ps gs ls now => cases hd
  | sym t ps gs cnt done =>
    obtain ⟨hh, _, hg, _⟩ := h
    rw [heldC_hd hh]
    show _ = ps.length + gs.length * N
    rw [hg]
set_option maxRecDepth 100000 in
set_option maxHeartbeats 8000000 in
theorem codeSteps.good (s : ByteArray) (c N : Nat) (w : World) (hB : Bnds w) (hs : s.size ≤ 120) (hc : c ≤ s.size) (h3 : 3 ≤ N) (h258 : N ≤ 258) :
    Calls Tryz.prog 4 #[.string s, .int .i64 (c : Int), .int .i64 (N : Int)] w fun e w' => e = .returned (.bool true) ∧ Below w.heap.size w w' := by
  have HBN := Lib.hid hB
  have H2 := Lib.hid (fun W (h : Bnds W) => codTwo_any W h)
  have hll : s.data.toList.length = s.size := rfl
  have h1 : ¬ (120 : Int) < (s.size : Int) := by omega
  have h2 : ¬ (s.size : Int) < (c : Int) := by omega
  have hci : (c : Int) ≤ (s.size : Int) := by omega
  have HLL := Lib.hid hll
  have HBT := Lib.hid (fun W => bitsTxt_any s W (by omega))
  have hBL : (bitsOf s.data.toList).length = 8 * s.size := by rw [bitsOf_length, hll]
  obtain ⟨most, hmost⟩ : ∃ m, 8 * s.size = m := ⟨_, rfl⟩
  have hmi : (8 : Int) * (s.size : Int) = (most : Int) := by omega
  have hmw : IntKind.i64.wrap (most : Int) = (most : Int) := IntWalk.i64_in _ (by omega)
  have HRR := Lib.hid (fun W => rread14_any (bitsOf s.data.toList) N most W (by omega) h3 h258)
  have HX1 : Hid ((s.extract 0 c).data.toList = s.data.toList.take c) := Lib.hid (ext_takeD s c)
  have HX2 : Hid ((s.extract c s.size).data.toList = s.data.toList.drop c) := Lib.hid (ext_dataD s c)
  have hx1s : (s.extract 0 c).size ≤ 120 := by rw [ByteArray.size_extract]; omega
  have hx2s : (s.extract c s.size).size ≤ 120 := by rw [ByteArray.size_extract]; omega
  generalize hE1 : s.extract 0 c = E1 at *
  generalize hE2 : s.extract c s.size = E2 at *
  have HE2 := Lib.hid hE2
  obtain ⟨Q, hQ⟩ : ∃ Q, bitsOf s.data.toList = Q := ⟨_, rfl⟩
  have HQ := Lib.hid hQ
  rw [hQ] at HBT HRR hBL
  rw [hmost] at hBL
  have HBL := Lib.hid hBL
  have HMO := Lib.hid hmost
  obtain ⟨S, hS⟩ : ∃ S, s.data.toList = S := ⟨_, rfl⟩
  rw [hS] at HLL HX1 HX2 HQ
  have HSZ := Lib.hid (fun W => rSize_any (N : Int) true W ⟨fun _ => by omega, fun _ => rfl⟩)
  clear hB hll hBL hQ hS
  go_enter Tryz.func4, Tryz.ntmps4
  go_wp2_with fail
  refine (HSZ.out _).mono ?_
  rintro e w0 ⟨rfl, hw0⟩
  have hw0' : w = w0 := by first | exact hw0 | exact hw0.symm
  subst hw0'
  go_wp2_with fail
  refine (cnew_yes N w h3 h258).mono ?_
  rintro e w1 ⟨b, rfl, hc1, hb1⟩
  have HC1 := Lib.hid hc1
  have HB1 := Lib.hid hb1
  clear hc1 hb1
  go_wp2_with fail
  try rw [hE1]
  refine (newReader_any E1 w1 (by unfold maxLen; omega)).mono ?_
  rintro e w2 ⟨rb, v1, rfl, hr2, hb2, hf2⟩
  rw [HX1.out] at hr2
  have HR2 := Lib.hid hr2
  have HB2 := Lib.hid (HB1.out.trans (hb2.mono HB1.out.size))
  have HC2 := Lib.hid (HC1.out.below hb2)
  have HF2 : Hid (∀ k, foot rb v1 k → w1.heap.size ≤ k ∧ k < w2.heap.size) := Lib.hid (fun k hk => ⟨hf2 k hk, hr2.lt k hk⟩)
  have HS12 := Lib.hid hb2.size
  clear hr2 hb2 hf2
  go_wp2_with fail
  refine (HBT.out _).mono ?_
  rintro e w3 ⟨rfl, hw3⟩
  have hw3' : w2 = w3 := by first | exact hw3 | exact hw3.symm
  subst hw3'
  go_wp2_with fail
  refine (HRR.out _).mono ?_
  rintro e w4 ⟨ad, m4, c4, ls, n4, held4, er4, rfl, hm4, hi4, hp4, hb4, ho4, hl4⟩
  obtain ⟨g, hg⟩ : ∃ g : GC, g = ⟨ls, n4, held4, er4⟩ := ⟨_, rfl⟩
  have HP4 : Hid (RdD14 Q N most g.ls g.n g.held g.err) := Lib.hid (by rw [hg]; exact hp4)
  have HI4 : Hid (IsInts w4 (.slice ad m4 c4) g.ls) := Lib.hid (by rw [hg]; exact hi4)
  have e1 : n4 = g.n := by rw [hg]
  have e2 : held4 = g.held := by rw [hg]
  have e3 : er4 = g.err := by rw [hg]
  have HLG : Hid (g.ls.length ≤ 9223372036854775807) := Lib.hid (by rw [hg]; show ls.length ≤ _; have := HBL.out; omega)
  rw [e1, e2, e3]
  have hb5 := (Below.refl w4.heap.size w4).alloc (Nat.le_refl _) (.cells #[.slice ad m4 c4, .int .i64 (g.n : Int), .int .i64 (g.held : Int), .int .i64 g.err] 34)
  have hb35 := hb4.trans (hb5.mono hb4.size)
  have hsz5 : (w4.alloc (.cells #[.slice ad m4 c4, .int .i64 (g.n : Int), .int .i64 (g.held : Int), .int .i64 g.err] 34)).heap.size = w4.heap.size + 1 := by simp
  have HST : Hid (StC w (w4.alloc (.cells #[.slice ad m4 c4, .int .i64 (g.n : Int), .int .i64 (g.held : Int), .int .i64 g.err] 34)) rb w4.heap.size (w4.heap.size + 1) 0 (fun k => w.heap.size ≤ k ∧ k < w1.heap.size) v1 (.slice ad m4 c4) (.slice none 0 0) (cm false S c) [] g) := Lib.hid
    ⟨HR2.out.other (Touch.ofBelow (S := fun _ => False) hb35) (fun _ _ h => h),
     fun k hk hh => by have h5 := HF2.out k hk; omega,
     fun k hk => by
       have h5 := HF2.out k hk
       have h6 := HB1.out.size
       have h8 := hb4.size
       refine ⟨by omega, by omega, fun hh => ?_, fun hh => (by cases hh)⟩
       have h9 := (ho4 k hh).1
       omega,
     fun k hk => by
       have h6 := HB1.out.size
       have h7 := HS12.out
       have h8 := hb4.size
       refine ⟨by omega, by omega, fun hh => ?_, fun hh => (by cases hh), by omega⟩
       have h9 := (ho4 k hh).1
       omega,
     fun j hj => by have := (ho4 j hj).2; omega,
     heap_alloc_new w4 _, ⟨by omega, by have h6 := HB2.out.size; have h8 := hb4.size; omega, by omega⟩, HI4.out.below hb5, OwnI.nil _ _, HB2.out.trans (hb35.mono HB2.out.size), HBN.out.below (HB2.out.trans (hb35.mono HB2.out.size))⟩
  have HC5 := Lib.hid (HC2.out.below hb35)
  obtain ⟨G, hG⟩ : ∃ G, w4.heap.size = G := ⟨_, rfl⟩
  rw [hG] at HST
  clear hb4 hb5 hb35 hp4 ho4 HI4 HR2 HB2 HF2 HC1 HC2 HB1 hi4 hm4 hl4 hsz5
  clear e1 e2 e3 hg
  have hs40 : (most : Int) + 40 ≤ 1100 := by omega
  have hm40 : (most : Int) + 40 = ((most + 40 : Nat) : Int) := by omega
  obtain ⟨K, hK⟩ : ∃ K, most + 40 = K := ⟨_, rfl⟩
  rw [hK] at hm40
  have hKw : IntKind.i64.wrap (K : Int) = (K : Int) := IntWalk.i64_in _ (by omega)
  have HK := Lib.hid hK
  clear hK hs40
  go_wp2_with fail
  try rw [hG]
  generalize w4.alloc (.cells #[.slice ad m4 c4, .int .i64 (g.n : Int), .int .i64 (g.held : Int), .int .i64 g.err] 34) = w5 at *
  clear hG
  go_loopw [11, 12, 61] (fun vcome vl vi wr => ∃ (i a : Nat) (come : Bool) (v2 : Value) (L : List Int) (O : Nat → Prop) (st : CSt), vi = .int .i64 (i : Int) ∧ vcome = .bool come ∧ i ≤ a + (if come then 1 else 0) ∧ L.length ≤ a ∧ StC w wr rb G (G + 1) a O v2 (.slice ad m4 c4) vl (cm come S c) L g ∧ IsCR wr b N O st ∧ RtC Q N most a L st) (fun _ _ vi _ => K - (intOf vi).toNat)
  case atStart => exact ⟨0, 0, false, v1, [], _, .fields, rfl, rfl, Nat.zero_le _, Nat.zero_le _, HST.out, HC5.out, RtC.start _ _ _⟩
  case round =>
    clear HST HC5
    obtain ⟨i, a, come, v2, L, O, st, rfl, rfl, hia, hLa, hst, hcr, hRt⟩ := hrel
    have HST := Lib.hid hst
    have HCR := Lib.hid hcr
    have HRt := Lib.hid hRt
    have hcl := cm_len come S c
    have hale : a ≤ 8 * (cm come S c).length := by have := hst.rdr.2.2.2.2; omega
    have hSl : S.length = s.size := HLL.out
    have hMOo := HMO.out
    have hia2 : i ≤ most + 1 := by
      have : (if come then 1 else 0) ≤ 1 := by split <;> omega
      omega
    have hic : (i : Int) < (K : Int) := by have := HK.out; omega
    have hlb : L.length ≤ 960 := by omega
    have HIA := Lib.hid hia
    have HALE := Lib.hid hale
    have HLA := Lib.hid hLa
    have HSPL := Lib.hid (cm_rest come S c a hale)
    rw [HQ.out] at HSPL
    have hLC : Hid (0 + (cm come S c).length ≤ 1099511627776) := Lib.hid (by omega)
    have HA8 : Hid (8 * (cm come S c).length ≤ most) := Lib.hid (by omega)
    obtain ⟨⟨f1, k1⟩, k2, k8, k9, k10⟩ := hcr.cells
    obtain ⟨al, cl, rfl⟩ := hst.own.slice
    obtain ⟨n, hn⟩ : ∃ n, L.length = n := ⟨_, rfl⟩
    have HN := Lib.hid hn
    rw [hn] at HST hlb ⊢
    clear hst hcr hRt hia hcl hale hSl hLa hMOo hn
    cases hd : st.done with
    | true =>
      have hfin : Hid (rdC Q N most = .ok L a) := Lib.hid (RtC.fin (Q := Q) (N := N) (most := most) (a := a) (L := L) (s := st) HRt.out hd)
      have hp := HP4.out
      unfold RdD14 at hp
      rw [hfin.out] at hp
      obtain ⟨el, en, eh, ee⟩ := hp
      rw [held_is HRt.out hd] at eh
      have HEL := Lib.hid el
      have HEN := Lib.hid en
      have HEH := Lib.hid eh
      have HEE := Lib.hid ee
      have hcn : st.cnt = n := by rw [← HN.out]; exact RtC.cnt_is (Q := Q) (N := N) (most := most) (a := a) (L := L) (s := st) HRt.out
      have HCN := Lib.hid hcn
      rw [hd] at k10
      have HD := Lib.hid hd
      have HSD := Lib.hid (HST.out.drewN 1)
      have HCD := Lib.hid (HCR.out.drewN 1)
      have HDN := Lib.hid (cdone_any b true wr k10)
      have HSP := Lib.hid (cstep_done b rb f1 wr k1 k10)
      obtain ⟨d0, d1, d2, d3⟩ := HST.out.cells
      rw [en] at d1
      rw [eh] at d2
      rw [ee] at d3
      have HCL : Hid (∀ W, StC w W rb G (G + 1) a O v2 (.slice ad m4 c4) (.slice al n cl) (cm come S c) L g → W.cell? ⟨G, 0, none⟩ = some (.slice ad m4 c4) ∧ W.cell? ⟨G, 1, none⟩ = some (.int .i64 (a : Int)) ∧ W.cell? ⟨G, 2, none⟩ = some (.int .i64 ((st.held N : Nat) : Int)) ∧ W.cell? ⟨G, 3, none⟩ = some (.int .i64 0)) := Lib.hid (fun W hW => by
        obtain ⟨y0, y1, y2, y3⟩ := hW.cells
        rw [HEN.out] at y1
        rw [HEH.out] at y2
        rw [HEE.out] at y3
        exact ⟨y0, y1, y2, y3⟩)
      obtain ⟨HH, hHH⟩ : ∃ h, st.held N = h := ⟨_, rfl⟩
      have HHH := Lib.hid hHH
      rw [hHH] at d2 HCL
      have HLB : Hid (L.length ≤ 9223372036854775807) := Lib.hid (by rw [HN.out]; omega)
      clear hd hcn el en eh ee k1 k2 k8 k9 k10 hHH
      go_wp2_with fail
      refine HDN.out.mono ?_
      rintro e w6 ⟨rfl, hw6⟩
      have hw6' : wr = w6 := by first | exact hw6 | exact hw6.symm
      subst hw6'
      go_wp2_with fail
      refine HSP.out.mono ?_
      rintro e w6 ⟨rfl, hw6⟩
      have hw6' : wr = w6 := by first | exact hw6 | exact hw6.symm
      subst hw6'
      go_wp2_with fail
      go_region_held3 (fun W => W.cell? ⟨G, 0, none⟩ = some (.slice ad m4 c4) ∧ W.cell? ⟨G, 1, none⟩ = some (.int .i64 (a : Int)) ∧ W.cell? ⟨G, 2, none⟩ = some (.int .i64 (HH : Int)) ∧ W.cell? ⟨G, 3, none⟩ = some (.int .i64 0)) (go_keep)
        (first
          | (go_at_call 17; refine (rat_any rb v2 _ 0 0 a _ (by exact HSD.out.rdr)).mono ?_; rintro e wB ⟨rfl, rfl⟩)
          | (go_at_call 24; refine (cheld_any b (HH : Int) _ (by rw [← HHH.out]; exact HCD.out.cells.2.2.1)).mono ?_; rintro e wB2 ⟨rfl, rfl⟩)
          | (go_at_call 25; refine (ccount_any b (n : Int) _ (by rw [← HCN.out]; exact HCD.out.cells.2.2.2.1)).mono ?_; rintro e wB3 ⟨rfl, rfl⟩)
          | (go_at_call 20; refine (ints_any _ _ L L true _ (by exact HSD.out.own.ints) (by rw [← HEL.out]; exact HSD.out.row) ⟨fun _ => rfl, fun _ => rfl⟩ HLB.out HLB.out).mono ?_; rintro e wD ⟨rfl, mD, hwD⟩; have HSE : Hid (StC w wD rb G (G + 1) a O v2 (.slice ad m4 c4) (.slice al n cl) (cm come S c) L g) := Lib.hid (by rw [hwD]; exact HSD.out.drewN mD); obtain ⟨y0, y1, y2, y3⟩ := HCL.out _ HSE.out; clear hwD)
          | (go_at_call 12; refine (H2.out _ (by exact HSE.out.bnd)).mono ?_; rintro e wE ⟨rfl, hbE⟩; have HSF := Lib.hid (HSE.out.below hbE); obtain ⟨z0, z1, z2, z3⟩ := HCL.out _ HSF.out; clear hbE))
      all_goals go_wp2_with fail
      all_goals go_ret
      all_goals exact ⟨rfl, HSF.out.bel⟩
    | false =>
      rw [hd] at k10
      have hcl : st.cnt ≤ 10000000 := by rw [RtC.cnt_is (Q := Q) (N := N) (most := most) (a := a) (L := L) (s := st) HRt.out, HN.out]; omega
      have HDN := Lib.hid (cdone_any b false wr k10)
      have HSP := cstep_any b rb N st O v2 (cm come S c) 0 0 a wr Q (rest come S c) most a L HCR.out HST.out.rdr hLC.out HST.out.sep (by rw [Nat.mul_zero, Nat.sub_zero]; exact HSPL.out) HRt.out h3 h258 hd hcl
      rw [Nat.mul_zero, Nat.sub_zero] at HSP
      have HSPH := Lib.hid HSP
      have hql : Hid (((bitsOf (cm come S c)).drop a).length = 8 * (cm come S c).length - a) := Lib.hid (by rw [List.length_drop, bitsOf_length])
      clear hd hcl HSP k1 k2 k8 k9 k10
      go_wp2_with fail
      refine HDN.out.mono ?_
      rintro e w6 ⟨rfl, hw6⟩
      have hw6' : wr = w6 := by first | exact hw6 | exact hw6.symm
      subst hw6'
      go_wp2_with fail
      refine (rat_any rb v2 _ 0 0 a wr HST.out.rdr).mono ?_
      rintro e w6 ⟨rfl, hw6⟩
      have hw6' : wr = w6 := by first | exact hw6 | exact hw6.symm
      subst hw6'
      go_wp2_with fail
      refine HSPH.out.mono ?_
      rintro e w7 ⟨x, er, used, O1, rfl, hR7, hT7, hF7, hu7, hcase⟩
      have HS7 := Lib.hid (HST.out.step HBN.out hR7 hT7 hF7)
      have hu8 : a + used ≤ 8 * (cm come S c).length := by have h1 := hql.out; have h2 := HALE.out; omega
      have HU8 := Lib.hid hu8
      clear hR7 hT7 hF7 hu7 HSPH
      rcases hcase with ⟨rfl, hus, s', hC', hx⟩ | ⟨he0, he3, rfl, hB', hrd⟩ | ⟨rfl, rfl, rfl, hC', hrd⟩
      · have HC' := Lib.hid hC'.shrink
        have HUS := Lib.hid hus
        rcases hx with ⟨rfl, hdn, hrt, hcn⟩ | ⟨j, hjN, rfl, hcn, hdn, hre, hrt⟩
        · have HRT := Lib.hid hrt
          clear hdn hrt hcn hC' hus hu8
          go_wp2_with fail
          go_roundw
          case rel => exact ⟨i + 1, a + used, come, v2, L, _, s', by go_num, rfl, by have h1 := HIA.out; have h2 := HUS.out; omega, by have h1 := HLA.out; omega, HS7.out, HC'.out, HRT.out⟩
          case measure => simp [intOf]; omega
        · have HRT := Lib.hid (hrt (by have h1 := HLA.out; have h2 := HA8.out; omega))
          have hlen : L.length + 1 ≤ 17592186044416 := by rw [HN.out]; omega
          clear hdn hrt hre hcn hC' hus hu8
          go_wp2_with (at_builtin; refine push_int2 w7 rfl _ _ rfl (G + 1) _ L (j : Int) HS7.out.own rfl rfl hlen HS7.out.gb.2.2 ?_)
          intro v8 w8 hO8 hB8 hsame hfr
          have hT8 : Touch (fun k => (Value.slice al n cl).ownBlock = some k) w7 w8 := ⟨hB8.os, hB8.tape, hB8.output, hB8.size, fun k hk hn => hsame k hk hn⟩
          have HC8 := Lib.hid (HC'.out.other hT8 (fun k hk e => (HS7.out.fo k hk).2.2.2.1 e))
          have HS8 := Lib.hid (HS7.out.push HBN.out hO8 hT8 hfr)
          clear hO8 hB8 hsame hfr hT8
          go_wp2_with fail
          go_roundw
          case rel => exact ⟨i + 1, a + used, come, v2, L ++ [(j : Int)], _, s', by go_num, rfl, by have h1 := HIA.out; have h2 := HUS.out; omega, by rw [List.length_append]; show L.length + 1 ≤ _; have h1 := HLA.out; have h2 := HUS.out; omega, HS8.out, HC8.out, HRT.out⟩
          case measure => simp [intOf]; omega
      · have hp := HP4.out
        unfold RdD14 at hp
        rw [hrd] at hp
        obtain ⟨_, _, _, ee⟩ := hp
        have hb0 : (er == 0) = false := by rw [beq_eq_false_iff_ne]; exact he0
        have hb3 : (er == 3) = false := by rw [beq_eq_false_iff_ne]; exact he3
        have hbb : (er == er) = true := by simp
        have HEE := Lib.hid ee
        have HCB := Lib.hid hB'
        have HBD := Lib.hid (fun W (h : IsCB W b er O1) => cstep_bad b rb er O1 W h he0)
        obtain ⟨P, hP⟩ : ∃ P, a + used = P := ⟨_, rfl⟩
        rw [hP] at HS7
        obtain ⟨_, _, _, d3⟩ := HS7.out.cells
        rw [ee] at d3
        clear hB' hrd he0 he3 hP ee hu8
        go_wp2_with fail
        refine (rat_any rb v2 _ 0 0 P w7 HS7.out.rdr).mono ?_
        rintro e w8 ⟨rfl, hw8⟩
        have hw8' : w7 = w8 := by first | exact hw8 | exact hw8.symm
        subst hw8'
        go_wp2_with fail
        refine (HBD.out _ HCB.out).mono ?_
        rintro e w8 ⟨rfl, m8, hw8⟩
        have HS8 : Hid (StC w w8 rb G (G + 1) P (fun k => O1 k ∧ k < w7.heap.size) v2 (.slice ad m4 c4) (.slice al n cl) (cm come S c) L g) := Lib.hid (by rw [hw8]; exact HS7.out.drewN m8)
        have HCB8 : Hid (IsCB w8 b er O1) := Lib.hid (by rw [hw8]; exact HCB.out.drewN m8)
        clear hw8 HS7 HCB d3
        obtain ⟨_, _, _, d3⟩ := HS8.out.cells
        rw [HEE.out] at d3
        have hcd : w8.cell? ⟨b, 10, none⟩ = some (.bool false) := by
          obtain ⟨F, f, N', hd', T, pu, tb', cu, held, cnt, q1, q2, _⟩ := HCB8.out
          exact (cc_cells q1 q2).2.2.2.2.2.2.2.2.2.2
        have HCD := Lib.hid (cdone_any b false w8 hcd)
        clear hcd
        go_wp2_with fail
        refine (rat_any rb v2 _ 0 0 P w8 HS8.out.rdr).mono ?_
        rintro e w9 ⟨rfl, hw9⟩
        have hw9' : w8 = w9 := by first | exact hw9 | exact hw9.symm
        subst hw9'
        go_wp2_with fail
        refine HCD.out.mono ?_
        rintro e w9 ⟨rfl, hw9⟩
        have hw9' : w8 = w9 := by first | exact hw9 | exact hw9.symm
        subst hw9'
        go_wp2_with fail
        refine (H2.out _ HS8.out.bnd).mono ?_
        rintro e w12 ⟨rfl, hb12⟩
        have HB12 := Lib.hid (HS8.out.bel.trans (hb12.mono HS8.out.bel.size))
        clear hb12
        go_wp2_with fail
        go_ret
        exact ⟨rfl, HB12.out⟩
      · have HC' := Lib.hid hC'.shrink
        rw [Nat.add_zero] at HS7
        clear hC' hu8
        cases come with
        | true =>
          have hp := HP4.out
          unfold RdD14 at hp
          rw [hrd rfl] at hp
          obtain ⟨_, _, _, ee⟩ := hp
          obtain ⟨_, _, _, d3⟩ := HS7.out.cells
          rw [ee] at d3
          clear hrd ee
          go_wp2_with fail
          refine (rat_any rb v2 _ 0 0 a w7 HS7.out.rdr).mono ?_
          rintro e w8 ⟨rfl, hw8⟩
          have hw8' : w7 = w8 := by first | exact hw8 | exact hw8.symm
          subst hw8'
          go_wp2_with fail
          refine (H2.out _ HS7.out.bnd).mono ?_
          rintro e w12 ⟨rfl, hb12⟩
          have HB12 := Lib.hid (HS7.out.bel.trans (hb12.mono HS7.out.bel.size))
          clear hb12
          go_wp2_with fail
          go_ret
          exact ⟨rfl, HB12.out⟩
        | false =>
          have HMOR := Lib.hid (more_any rb v2 (cm false S c) 0 0 a E2 w7 HS7.out.rdr (by have h5 := cm_len false S c; have h6 := HLL.out; omega))
          rw [HX2.out, cm_more] at HMOR
          clear hrd
          go_wp2_with fail
          refine (rat_any rb v2 _ 0 0 a w7 HS7.out.rdr).mono ?_
          rintro e w8 ⟨rfl, hw8⟩
          have hw8' : w7 = w8 := by first | exact hw8 | exact hw8.symm
          subst hw8'
          go_wp2_with fail
          try rw [HE2.out]
          refine HMOR.out.mono ?_
          rintro e w9 ⟨rfl, v3, hR9, hT9, ho9⟩
          have HC9 := Lib.hid (HC'.out.other hT9 (fun k hk hh => HS7.out.sep k hh hk))
          have HS9 := Lib.hid (HS7.out.more HBN.out hR9 hT9 ho9)
          clear hR9 hT9 ho9 HMOR
          go_wp2_with fail
          go_roundw
          case rel => exact ⟨i + 1, a, true, v3, L, _, st, by go_num, rfl, by have := HIA.out; simp at this ⊢; omega, HLA.out, HS9.out, HC9.out, HRt.out⟩
          case measure => simp [intOf]; omega
theorem codeSteps.walk (s : ByteArray) (c z : Int) (w : World) (hB : Bnds w) (hs : s.size ≤ maxLen) (_ : (Lit.int .i64 c).wf = true) (_ : (Lit.int .i64 z).wf = true) :
    Calls Tryz.prog 4 #[.string s, .int .i64 c, .int .i64 z] w fun e w' => e = .returned (.bool true) ∧ Below w.heap.size w w' := by
  by_cases h : 120 < s.size ∨ c < 0 ∨ (s.size : Int) < c ∨ ¬ (3 ≤ z ∧ z ≤ 258)
  · exact codeSteps.far s c z w hB hs h
  · obtain ⟨C, rfl⟩ : ∃ C : Nat, c = (C : Int) := ⟨c.toNat, by omega⟩
    obtain ⟨N, rfl⟩ : ∃ N : Nat, z = (N : Int) := ⟨z.toNat, by omega⟩
    exact codeSteps.good s C N w hB (by omega) (by omega) (by omega) (by omega)
end Go.Proofs.YtojphcoghbiepaaGreatDoor

/-
  THE WALKS OF THE DOCUMENT's ANSWERS OF LAYER 5 (balerref05): Bits and Read.
-/
import Derived.Test.YthpgddodfnjmbaaUsedRef
namespace Go.Proofs.Ythpgddodfnjmbaa
open Go.RowKit BitM UsedM
set_option linter.unusedVariables false
/-- The first k of the sixteens that are used. -/
def whichK (S : Nat → Bool) (k : Nat) : List Bool := (List.range k).map (some_ S)
theorem whichK_length (S : Nat → Bool) (k : Nat) : (whichK S k).length = k := by simp [whichK]
theorem whichK_succ (S : Nat → Bool) (k : Nat) : whichK S (k + 1) = whichK S k ++ [some_ S k] := by unfold whichK; rw [List.range_succ, List.map_append]; rfl
/-- The first j bits of the i-th sixteen. -/
def rowJ (S : Nat → Bool) (i j : Nat) : List Bool := (List.range j).map fun k => S (16 * i + k)
theorem rowJ_length (S : Nat → Bool) (i j : Nat) : (rowJ S i j).length = j := by simp [rowJ]
theorem rowJ_succ (S : Nat → Bool) (i j : Nat) : rowJ S i (j + 1) = rowJ S i j ++ [S (16 * i + j)] := by unfold rowJ; rw [List.range_succ, List.map_append]; rfl
theorem rowJ_any (S : Nat → Bool) (i j : Nat) : (rowJ S i (j + 1)).any id = ((rowJ S i j).any id || S (16 * i + j)) := by rw [rowJ_succ, List.any_append]; simp
theorem txt_one (q : List Bool) : txt q ++ ⟨#[49]⟩ = txt (q ++ [true]) := by rw [show (⟨#[49]⟩ : ByteArray) = txt [true] from rfl, txt_append]
theorem txt_nought (q : List Bool) : txt q ++ ⟨#[48]⟩ = txt (q ++ [false]) := by rw [show (⟨#[48]⟩ : ByteArray) = txt [false] from rfl, txt_append]
set_option maxRecDepth 100000 in
set_option maxHeartbeats 1000000 in
theorem refBits_any (s : ByteArray) (w : World) (hs : s.size ≤ 9223372036854775807) :
    Calls Try.prog 21 #[.string s] w fun e w' => e = .returned (.string (txt (ubits (has s.data.toList)))) ∧ w = w' := by
  have HT := Lib.hid (fun n w => there_any s n w hs)
  obtain ⟨S, hS⟩ : ∃ S, has s.data.toList = S := ⟨_, rfl⟩
  simp only [hS] at HT ⊢
  clear hS
  have h491 : (⟨#[49]⟩ : ByteArray).size = 1 := rfl
  have h481 : (⟨#[48]⟩ : ByteArray).size = 1 := rfl
  go_enter Try.func21, Try.ntmps21
  go_wp2_with fail
  go_loop [3, 4, 9] (fun a b i => ∃ k : Nat, k ≤ 16 ∧ i = .int .i64 k ∧ a = .string (txt (whichK S k)) ∧ b = .string (txt (rows S k))) (fun _ _ i => 16 - (intOf i).toNat)
  case atStart => exact ⟨0, by omega, rfl, rfl, rfl⟩
  case round =>
    obtain ⟨k, hk, rfl, rfl, rfl⟩ := hrel
    have z1 : (txt (whichK S k)).size ≤ 16 := by rw [txt_size, whichK_length]; exact hk
    have z2 : (txt (rows S k)).size ≤ 256 := by rw [txt_size, rows_length]; have := cnt_le S k; omega
    by_cases hlt : k < 16
    · have hk2 : (k : Int) < 16 := by omega
      have HW1 := Lib.hid (txt_one (whichK S k))
      have HW0 := Lib.hid (txt_nought (whichK S k))
      have HWS := Lib.hid (whichK_succ S k)
      have HRS := Lib.hid (rows_succ S k)
      have HRA := Lib.hid (txt_append (rows S k) (row S k))
      generalize txt (whichK S k) = TW at *
      generalize hTR : txt (rows S k) = TR at *
      have HTR := Lib.hid hTR
      clear hTR
      go_wp2_with fail
      go_loop [6, 7, 12] (fun r o i => ∃ j : Nat, j ≤ 16 ∧ i = .int .i64 j ∧ r = .string (txt (rowJ S k j)) ∧ o = .bool ((rowJ S k j).any id)) (fun _ _ i => 16 - (intOf i).toNat)
      case atStart => exact ⟨0, by omega, rfl, rfl, rfl⟩
      case round =>
        obtain ⟨j, hj, rfl, rfl, rfl⟩ := hrel
        have z3 : (txt (rowJ S k j)).size ≤ 16 := by rw [txt_size, rowJ_length]; exact hj
        by_cases hlj : j < 16
        · have hj2 : (j : Int) < 16 := by omega
          have hsum : (16 : Int) * (k : Int) + (j : Int) = ((16 * k + j : Nat) : Int) := by omega
          have H1 := Lib.hid (txt_one (rowJ S k j))
          have H0 := Lib.hid (txt_nought (rowJ S k j))
          have HS1 := Lib.hid (rowJ_succ S k j)
          have HA := Lib.hid (rowJ_any S k j)
          generalize txt (rowJ S k j) = TJ at *
          obtain ⟨m, hm⟩ : ∃ m, 16 * k + j = m := ⟨_, rfl⟩
          rw [hm] at hsum HS1 HA
          go_wp2_with fail
          refine (HT.out m w).mono ?_
          by_cases hSm : S m = true
          · have HS2 := HS1.out
            have HA2 := HA.out
            rw [hSm] at HS2 HA2 ⊢
            have HS3 := Lib.hid HS2
            have HA3 := Lib.hid HA2
            clear hSm HS2 HA2
            rintro e w' ⟨rfl, rfl⟩
            go_wp2_with fail
            go_round
            case rel => exact ⟨j + 1, by omega, by go_num, by rw [HS3.out, H1.out], by rw [HA3.out, Bool.or_true]⟩
            case measure => simp [intOf]; omega
          · have hSf : S m = false := by simpa using hSm
            have HS2 := HS1.out
            have HA2 := HA.out
            rw [hSf] at HS2 HA2 ⊢
            have HS3 := Lib.hid HS2
            have HA3 := Lib.hid HA2
            clear hSm hSf HS2 HA2
            rintro e w' ⟨rfl, rfl⟩
            go_wp2_with fail
            go_round
            case rel => exact ⟨j + 1, by omega, by go_num, by rw [HS3.out, H0.out], by rw [HA3.out, Bool.or_false]⟩
            case measure => simp [intOf]; omega
        · obtain rfl : j = 16 := by omega
          have hrow : rowJ S k 16 = row S k := rfl
          have hsome : (row S k).any id = some_ S k := rfl
          rw [hrow] at z3
          rw [hrow, hsome]
          by_cases hso : some_ S k = true
          · have HWS2 := HWS.out
            have HRS2 := HRS.out
            rw [hso] at HWS2 HRS2 ⊢
            have HWS3 := Lib.hid HWS2
            have HRS3 := Lib.hid HRS2
            clear hso HWS2 HRS2 hrow hsome
            generalize hTK : txt (row S k) = TK at *
            go_wp2_with fail
            go_round
            case rel => exact ⟨k + 1, by omega, by go_num, by rw [HWS3.out, HW1.out], by rw [HRS3.out, HRA.out]; rfl⟩
            case measure => simp [intOf]; omega
          · have hsf : some_ S k = false := by simpa using hso
            have HWS2 := HWS.out
            have HRS2 := HRS.out
            rw [hsf] at HWS2 HRS2 ⊢
            have HWS3 := Lib.hid HWS2
            have HRS3 := Lib.hid HRS2
            clear hso hsf HWS2 HRS2 hrow hsome
            go_wp2_with fail
            go_round
            case rel => exact ⟨k + 1, by omega, by go_num, by rw [HWS3.out, HW0.out], by rw [HRS3.out]; exact congrArg Value.string HTR.out.symm⟩
            case measure => simp [intOf]; omega
    · obtain rfl : k = 16 := by omega
      have HE := Lib.hid (show txt (whichK S 16) ++ txt (rows S 16) = txt (ubits S) by rw [txt_append]; rfl)
      go_wp2_with fail
      go_ret
      rw [HE.out]
      exact ⟨rfl, rfl⟩
/-! ### Read -/
theorem rdk_none (q : List Bool) : ∀ (d k : Nat), rdk q k = none → rdk q (k + d) = none
  | 0, k, h => h
  | d + 1, k, h => by
    rw [show k + (d + 1) = (k + d) + 1 by omega, rdk_succ, rdk_none q d k h]
theorem rdk_none16 (q : List Bool) (k : Nat) (hk : k ≤ 16) (h : rdk q k = none) : rdk q 16 = none := by
  have := rdk_none q (16 - k) k h
  rwa [show k + (16 - k) = 16 by omega] at this
/-- What the document's Read tells. -/
def RefTold (q : List Bool) (t : ByteArray) (bits err : Nat) : Prop :=
  match rdk q 16 with
  | none => t = ⟨#[]⟩ ∧ bits = 0 ∧ err = 3
  | some (n, S) => (syms S 256 = [] ∧ t = ⟨#[]⟩ ∧ bits = 0 ∧ err = 25) ∨ (syms S 256 ≠ [] ∧ t = ⟨(syms S 256).toArray⟩ ∧ bits = n ∧ err = 0)
theorem store_got {W : World} {g : Nat} {x y z a b c : Value} (h : W.heap[g]? = some (.cells #[x, y, z] 44 (0, 0))) :
    (((W.setCell ⟨g, 0, none⟩ a).setCell ⟨g, 1, none⟩ b).setCell ⟨g, 2, none⟩ c).heap[g]? = some (.cells #[a, b, c] 44 (0, 0)) :=
  heap_setCell_same _ _ 2 _ _ _ (heap_setCell_same _ _ 1 _ _ _ (heap_setCell_same _ _ 0 _ _ _ h))
theorem info44 (A : Array Value) (h : A.size = 3) : (Try.prog.info? 44).map (·.size) = some A.size := by rw [h]; kernel_rfl
theorem below_set3 {B : Nat} {w W : World} {g : Nat} {a b c : Value} (h : Below B w W) (hg : B ≤ g) : Below B w (((W.setCell ⟨g, 0, none⟩ a).setCell ⟨g, 1, none⟩ b).setCell ⟨g, 2, none⟩ c) :=
  ((h.setCell hg _).setCell hg _).setCell hg _
theorem syms_more (q : List Bool) (n k : Nat) (S : Nat → Bool) : syms (more q n k S) (16 * k) = syms S (16 * k) := syms_congr _ _ _ (fun b hb => by
  unfold more
  rw [if_neg (by omega)])
theorem syms_out (S : Nat → Bool) (k : Nat) (h : ∀ b, 16 * k ≤ b → S b = false) : ∀ d, syms S (16 * k + d) = syms S (16 * k)
  | 0 => rfl
  | d + 1 => by rw [← Nat.add_assoc, syms_succ, h _ (by omega)]; exact syms_out S k h d
theorem one_got (t : ByteArray) (x y : Int) : (#[Value.string t, .int .i64 x, .int .i64 y] : Array Value).all (·.oneCell') = true := by simp [Value.oneCell']
theorem empty_is (s : ByteArray) (r : Bool) (h : r = true ↔ s.data.toList = []) : s.toList.isEmpty = r := by
  rw [Bool.eq_iff_iff, List.isEmpty_iff, ByteArray.toList_eq, h]
theorem below_row3 {B : Nat} {w W : World} {g : Nat} {cs : Array Value} (h : Below B w W) (hg : B ≤ g) : Below B w (W.setRow g cs) := below_setRow h hg cs
/-- What the loop of the document's Read knows. -/
def RefInv (w wr : World) (q : List Bool) (k n : Nat) (S : Nat → Bool) : Prop :=
  rdk q k = some (n, S) ∧ Below w.heap.size w wr ∧ wr.heap[w.heap.size]? = some (.cells #[.string ⟨#[]⟩, .int .i64 0, .int .i64 0] 44 (0, 0))
theorem RefInv.le {w wr : World} {q : List Bool} {k n : Nat} {S : Nat → Bool} (h : RefInv w wr q k n S) : n ≤ q.length ∧ 16 ≤ n := ⟨(rdk_le _ _ _ _ h.1).1, (rdk_le _ _ _ _ h.1).2.1⟩
theorem RefInv.lt {w wr : World} {q : List Bool} {k n : Nat} {S : Nat → Bool} (h : RefInv w wr q k n S) : w.heap.size < wr.heap.size := (Array.getElem?_eq_some_iff.1 h.2.2).1
theorem RefInv.out {w wr : World} {q : List Bool} {k n : Nat} {S : Nat → Bool} (h : RefInv w wr q k n S) : ∀ b, 16 * k ≤ b → S b = false := rdk_out _ _ _ _ h.1
theorem RefInv.more {w wr w2 : World} {q : List Bool} {k n : Nat} {S : Nat → Bool} (h : RefInv w wr q k n S) (hb : Below (w.heap.size + 1) wr w2) (hq : q.getD k false = true) (hl : n + 16 ≤ q.length) : RefInv w w2 q (k + 1) (n + 16) (more q n k S) := by
  refine ⟨?_, h.2.1.trans (hb.mono (Nat.le_succ _)), (hb.block _ (Nat.lt_succ_self _)).trans h.2.2⟩
  rw [rdk_succ, h.1]
  simp only [hq, if_true]
  rw [if_neg (by omega)]
  rfl
theorem RefInv.skip {w wr : World} {q : List Bool} {k n : Nat} {S : Nat → Bool} (h : RefInv w wr q k n S) (hq : q.getD k false = false) : RefInv w wr q (k + 1) n S ∧ syms S (16 * (k + 1)) = syms S (16 * k) := by
  refine ⟨⟨?_, h.2⟩, ?_⟩
  · rw [rdk_succ, h.1]
    simp only [hq]
    rfl
  · exact syms_out S k h.out 16
theorem RefInv.short {w wr : World} {q : List Bool} {k n : Nat} {S : Nat → Bool} (h : RefInv w wr q k n S) (hk : k < 16) (hq : q.getD k false = true) (hl : q.length < n + 16) : RefTold q ⟨#[]⟩ 0 3 := by
  have : rdk q (k + 1) = none := by
    rw [rdk_succ, h.1]
    simp only [hq, if_true]
    rw [if_pos hl]
  unfold RefTold
  rw [rdk_none16 q (k + 1) (by omega) this]
  exact ⟨rfl, rfl, rfl⟩
theorem txt_test (q : List Bool) (k : Nat) (hk : k < q.length) (h : k < (txt q).size) : ((txt q)[k].toNat : Int) = 48 + (bn (q.getD k false) : Int) := by
  rw [txt_get q k hk h]
  congr 3
  rw [List.getD_eq_getElem?_getD, List.getElem?_eq_getElem hk]
  rfl
set_option maxRecDepth 100000 in
set_option maxHeartbeats 1000000 in
theorem refRead_any (q : List Bool) (w : World) (hq : q.length ≤ 1000000) :
    Calls Try.prog 34 #[.string (txt q)] w fun e w' => ∃ (t : ByteArray) (bits err : Nat), e = .returned (.agg #[.string t, .int .i64 (bits : Int), .int .i64 (err : Int)]) ∧ Below w.heap.size w w' ∧ RefTold q t bits err := by
  have hts := txt_size q
  have hg0 : (w.alloc (.cells #[.string ⟨#[]⟩, .int .i64 0, .int .i64 0] 44)).heap[w.heap.size]? = some (.cells #[.string ⟨#[]⟩, .int .i64 0, .int .i64 0] 44 (0, 0)) := heap_alloc_new _ _
  have hi : (Try.prog.info? 44).map (·.size) = some 3 := by kernel_rfl
  have HTS := Lib.hid hts
  have hu := Try.underlying44
  by_cases hlen : q.length < 16
  · have hz : ((txt q).size : Int) < 16 := by omega
    have hn : rdk q 16 = none := rdk_none16 q 0 (by omega) (by rw [rdk_zero, if_pos hlen])
    have HN := Lib.hid hn
    clear hn hts
    generalize txt q = T at *
    go_enter Try.func34, Try.ntmps34
    go_wp2_with (refine wpList_store_row rfl 44 _ _ rfl w.heap.size #[.string ⟨#[]⟩, .int .i64 0, .int .i64 3] rfl rfl 44 _ hg0 hi rfl (one_got _ _ _) ?_)
    refine bodyPost_ret (v := .agg #[.string ⟨#[]⟩, .int .i64 0, .int .i64 3]) (results_cell_row rfl _ _ w.heap.size 44 _ (0, 0) _ rfl (setRow_heap _ _ _ _ _ _ hg0) hu rfl hi) rfl ⟨⟨#[]⟩, 0, 3, rfl, ?_, ?_⟩
    · exact below_row3 ((Below.refl _ _).alloc (Nat.le_refl _) _) (Nat.le_refl _)
    · unfold RefTold
      rw [HN.out]
      exact ⟨rfl, rfl, rfl⟩
  · have hz : (16 : Int) ≤ (txt q).size := by omega
    have hI0 : RefInv w (w.alloc (.cells #[.string ⟨#[]⟩, .int .i64 0, .int .i64 0] 44)) q 0 16 (fun _ => false) := ⟨by rw [rdk_zero, if_neg hlen], (Below.refl _ _).alloc (Nat.le_refl _) _, hg0⟩
    have HI0 := Lib.hid hI0
    have HTT := Lib.hid (txt_test q)
    have hzq : ((txt q).size : Int) ≤ 1000000 := by omega
    clear hI0 hts hg0
    go_enter Try.func34, Try.ntmps34
    go_wp2_with fail
    go_loopw [3, 4, 11] (fun a o i wr => ∃ (k n : Nat) (S : Nat → Bool), k ≤ 16 ∧ i = .int .i64 k ∧ a = .int .i64 (n : Int) ∧ o = .string ⟨(syms S (16 * k)).toArray⟩ ∧ RefInv w wr q k n S) (fun _ _ i _ => 16 - (intOf i).toNat)
    case atStart => exact ⟨0, 16, _, by omega, rfl, rfl, rfl, HI0.out⟩
    case round =>
      clear HI0
      obtain ⟨k, n, S, hk, rfl, rfl, rfl, hI⟩ := hrel
      have HI := Lib.hid hI
      have hnl := hI.le
      have hg := hI.2.2
      clear hI
      by_cases hlt : k < 16
      · have hk2 : (k : Int) < 16 := by omega
        have hkz : k < (txt q).size := by have := HTS.out; omega
        have hgk := HTT.out k (by omega) hkz
        have hn1 : (n : Int) ≤ 1000000 := by omega
        by_cases hqk : q.getD k false = true
        · rw [hqk] at hgk
          have hgk2 : ((txt q)[k].toNat : Int) = 49 := hgk
          by_cases hsh : q.length < n + 16
          · have hsz : ((txt q).size : Int) < (n : Int) + 16 := by have := HTS.out; omega
            have HRT := Lib.hid (HI.out.short hlt hqk hsh)
            clear hgk
            go_wp2_with (refine wpList_store_row rfl 44 _ _ rfl w.heap.size #[.string ⟨#[]⟩, .int .i64 0, .int .i64 3] rfl rfl 44 _ hg hi rfl (one_got _ _ _) ?_)
            refine bodyPost_ret (v := .agg #[.string ⟨#[]⟩, .int .i64 0, .int .i64 3]) (results_cell_row rfl _ _ w.heap.size 44 _ (0, 0) _ rfl (setRow_heap _ _ _ _ _ _ hg) hu rfl hi) rfl ⟨⟨#[]⟩, 0, 3, rfl, ?_, HRT.out⟩
            exact below_row3 HI.out.2.1 (Nat.le_refl _)
          · have hsz : (n : Int) + 16 ≤ ((txt q).size : Int) := by have := HTS.out; omega
            have HM := Lib.hid (fun w2 (hb : Below (w.heap.size + 1) wr w2) => HI.out.more hb hqk (by omega))
            have HSM := Lib.hid (syms_more q n k S)
            have hlw := HI.out.lt
            clear hgk hqk hg
            go_wp2_with fail
            go_loopw [4, 24] (fun o i wr2 => ∃ j : Nat, j ≤ 16 ∧ i = .int .i64 j ∧ o = .string ⟨(syms (more q n k S) (16 * k + j)).toArray⟩ ∧ Below (w.heap.size + 1) wr wr2) (fun _ i _ => 16 - (intOf i).toNat)
            case atStart => exact ⟨0, by omega, rfl, by rw [Nat.add_zero, HSM.out], Below.refl _ _⟩
            case round =>
              obtain ⟨j, hj, rfl, rfl, hB⟩ := hrel
              have HB := Lib.hid hB
              clear hB
              by_cases hlj : j < 16
              · have hj2 : (j : Int) < 16 := by omega
                obtain ⟨m, hm⟩ : ∃ m, n + j = m := ⟨_, rfl⟩
                have hmi : (n : Int) + (j : Int) = (m : Int) := by omega
                have hmz : m < (txt q).size := by have := HTS.out; omega
                have hgm := HTT.out m (by have := HTS.out; omega) hmz
                have hmz2 : (m : Int) < ((txt q).size : Int) := by omega
                obtain ⟨c, hc⟩ : ∃ c, 16 * k + j = c := ⟨_, rfl⟩
                have hci : (16 : Int) * (k : Int) + (j : Int) = (c : Int) := by omega
                have hcl : (c : Int) < 256 := by omega
                have hcw : IntKind.u8.wrap (c : Int) = (c : Int) := IntWalk.u8_in _ (by omega)
                have hmc : more q n k S c = q.getD m false := by
                  unfold more
                  rw [if_pos (by omega), show n + c % 16 = m by omega]
                have HSS := Lib.hid (syms_succ (more q n k S) c)
                have HC1 := Lib.hid (show 16 * k + (j + 1) = c + 1 by omega)
                simp only [hc]
                have hlen2 : (⟨(syms (more q n k S) c).toArray⟩ : ByteArray).size ≤ 256 := by rw [text_size]; exact Nat.le_trans (syms_le _ c) (by omega)
                have hx : (UInt8.ofNat c).toNat = c := by rw [UInt8.toNat_ofNat', Nat.mod_eq_of_lt (by omega)]
                have hx1 : (⟨#[UInt8.ofNat c]⟩ : ByteArray).size = 1 := rfl
                have HCV := Lib.hid (fun W => one_conv W (UInt8.ofNat c) (c : Int) (by rw [hx]))
                have HAP := Lib.hid (text_append (syms (more q n k S) c) [UInt8.ofNat c])
                by_cases hqm : q.getD m false = true
                · have HS2 := HSS.out
                  rw [hmc, hqm, if_pos rfl] at HS2
                  have HS3 := Lib.hid HS2
                  rw [hqm] at hgm
                  have hgm2 : ((txt q)[m].toNat : Int) = 49 := hgm
                  have hcv := HCV.out wr
                  generalize (⟨(syms (more q n k S) c).toArray⟩ : ByteArray) = O at *
                  clear HS2 hx hgm hmc hqm hc hm
                  go_wp2_with fail
                  go_roundw
                  case rel => exact ⟨j + 1, by omega, by go_num, by rw [HC1.out, HS3.out]; exact congrArg Value.string HAP.out, HB.out.alloc (by have := HB.out.size; omega) _⟩
                  case measure => simp [intOf]; omega
                · have hqf : q.getD m false = false := by simpa using hqm
                  have HS2 := HSS.out
                  rw [hmc, hqf] at HS2
                  have HS3 := Lib.hid HS2
                  rw [hqf] at hgm
                  have hgm2 : ((txt q)[m].toNat : Int) = 48 := hgm
                  clear HS2 hx hgm hmc hqm hqf hc hm
                  go_wp2_with fail
                  go_roundw
                  case rel => exact ⟨j + 1, by omega, by go_num, by rw [HC1.out, HS3.out]; rfl, HB.out⟩
                  case measure => simp [intOf]; omega
              · obtain rfl : j = 16 := by omega
                have HN := Lib.hid (HM.out wr HB.out)
                generalize hO : (⟨(syms (more q n k S) (16 * k + 16)).toArray⟩ : ByteArray) = O at *
                have HO := Lib.hid hO
                clear hO
                go_wp2_with fail
                go_roundw
                case rel => exact ⟨k + 1, n + 16, _, by omega, by go_num, by go_num, by rw [← HO.out]; rfl, HN.out⟩
                case measure => simp [intOf]; omega
        · have hqf : q.getD k false = false := by simpa using hqk
          rw [hqf] at hgk
          have hgk2 : ((txt q)[k].toNat : Int) = 48 := hgk
          obtain ⟨hs1, hs2⟩ := HI.out.skip hqf
          have HS1 := Lib.hid hs1
          have HS2 := Lib.hid hs2
          clear hgk hqk hqf hs1 hs2 hg
          generalize hO : (⟨(syms S (16 * k)).toArray⟩ : ByteArray) = O at *
          have HO := Lib.hid hO
          clear hO
          go_wp2_with fail
          go_roundw
          case rel => exact ⟨k + 1, n, S, by omega, by go_num, rfl, by rw [HS2.out, HO.out], HS1.out⟩
          case measure => simp [intOf]; omega
      · obtain rfl : k = 16 := by omega
        have hrd := HI.out.1
        have hB := HI.out.2.1
        have hlen3 : (⟨(syms S (16 * 16)).toArray⟩ : ByteArray).data.toList = syms S 256 := rfl
        by_cases hsy : syms S 256 = []
        · have hem := empty_is ⟨(syms S (16 * 16)).toArray⟩ true (by rw [hlen3]; exact ⟨fun _ => hsy, fun _ => rfl⟩)
          have HRT : Hid (RefTold q ⟨#[]⟩ 0 25) := Lib.hid (by
            unfold RefTold
            rw [hrd]
            exact Or.inl ⟨hsy, rfl, rfl, rfl⟩)
          have HB := Lib.hid hB
          clear hrd hB hlen3 hsy
          generalize (⟨(syms S (16 * 16)).toArray⟩ : ByteArray) = O at *
          go_wp2_with (refine wpList_store_row rfl 44 _ _ rfl w.heap.size #[.string ⟨#[]⟩, .int .i64 0, .int .i64 25] rfl rfl 44 _ hg hi rfl (one_got _ _ _) ?_)
          refine bodyPost_ret (v := .agg #[.string ⟨#[]⟩, .int .i64 0, .int .i64 25]) (results_cell_row rfl _ _ w.heap.size 44 _ (0, 0) _ rfl (setRow_heap _ _ _ _ _ _ hg) hu rfl hi) rfl ⟨⟨#[]⟩, 0, 25, rfl, ?_, HRT.out⟩
          exact below_row3 HB.out (Nat.le_refl _)
        · have hem := empty_is ⟨(syms S (16 * 16)).toArray⟩ false (by rw [hlen3]; exact ⟨fun e => (by cases e), fun e => absurd e hsy⟩)
          have HRT : Hid (RefTold q ⟨(syms S 256).toArray⟩ n 0) := Lib.hid (by
            unfold RefTold
            rw [hrd]
            exact Or.inr ⟨hsy, rfl, rfl, rfl⟩)
          have HB := Lib.hid hB
          clear hrd hB hlen3 hsy
          generalize hO : (⟨(syms S (16 * 16)).toArray⟩ : ByteArray) = O at *
          have HO := Lib.hid hO
          clear hO
          go_wp2_with (refine wpList_store_row rfl 44 _ _ rfl w.heap.size #[.string O, .int .i64 (n : Int), .int .i64 0] rfl rfl 44 _ hg hi rfl (one_got _ _ _) ?_)
          refine bodyPost_ret (v := .agg #[.string O, .int .i64 (n : Int), .int .i64 0]) (results_cell_row rfl _ _ w.heap.size 44 _ (0, 0) _ rfl (setRow_heap _ _ _ _ _ _ hg) hu rfl hi) rfl ⟨O, n, 0, rfl, ?_, by exact HRT.out⟩
          exact below_row3 HB.out (Nat.le_refl _)
end Go.Proofs.Ythpgddodfnjmbaa

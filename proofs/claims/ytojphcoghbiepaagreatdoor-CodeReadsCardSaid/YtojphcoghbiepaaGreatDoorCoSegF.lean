/-
  MERGED by seg.py out of: BitsRef BitsRefB Wrote Pk PkB PkD PkE PkF Del DelC DelD DelE Cod CodH.
-/
import Derived.Test.YtojphcoghbiepaaGreatDoorCoSegE
import Derived.Laws.StandIn
import Derived.Laws.CopyRow
import Derived.StillTailTactics
import Derived.Deep.MidRow
import Derived.Laws.BitsAllLaws
import Derived.Deep.RegionHeld3
import Derived.Outline
import Derived.BigRegion
import Derived.BigQuiet
import Derived.Shelf.Abstract
import Derived.Laws.EntriesVeiled
namespace Go.Proofs.YtojphcoghbiepaaGreatDoor
open Go.RowKit BitM
set_option linter.unusedVariables false
/-- A row of bits as a text. -/
def chr (b : Bool) : UInt8 := if b then 49 else 48
def txt (q : List Bool) : ByteArray := ⟨(q.map chr).toArray⟩
theorem txt_size (q : List Bool) : (txt q).size = q.length := by show (q.map chr).toArray.size = _; simp
theorem txt_append (p q : List Bool) : txt p ++ txt q = txt (p ++ q) := by
  apply ByteArray.ext
  simp [txt]
theorem field_cons (X k : Nat) : field X (k + 1) = (X / 2 ^ k % 2 == 1) :: field X k := by
  apply num_inj
  · simp [field_length]
  · have e : num ((X / 2 ^ k % 2 == 1) :: field X k) = bn (X / 2 ^ k % 2 == 1) * 2 ^ (field X k).length + num (field X k) := num_append [X / 2 ^ k % 2 == 1] (field X k) |>.trans (by rw [show num [X / 2 ^ k % 2 == 1] = bn (X / 2 ^ k % 2 == 1) from Nat.zero_add _])
    have hb : bn (X / 2 ^ k % 2 == 1) = X / 2 ^ k % 2 := by
      have : X / 2 ^ k % 2 = 0 ∨ X / 2 ^ k % 2 = 1 := by omega
      rcases this with h | h <;> simp [h, bn]
    rw [e, hb, field_length, field_num, field_num, Nat.pow_succ, Nat.mod_mul, Nat.mul_comm, Nat.add_comm]
theorem one_txt (v : Nat) : (⟨#[48, 49]⟩ : ByteArray).extract (v % 2) (v % 2 + 1) = txt [v % 2 == 1] := by
  have : v % 2 = 0 ∨ v % 2 = 1 := by omega
  rcases this with h | h <;> rw [h] <;> decide
set_option maxHeartbeats 400000 in
theorem fieldTxt_any (X n : Nat) (w : World) (hn : n ≤ 32) (hX32 : X < 4294967296) : Calls Tryz.prog 58 #[.int .u32 (X : Int), .int .i64 (n : Int)] w fun e w' => e = .returned (.string (txt (field X n))) ∧ w = w' := by
  go_enter Tryz.func58, Tryz.ntmps58
  go_wp2_with fail
  go_loop [0, 5, 7] (fun v s i => ∃ k : Nat, k ≤ n ∧ i = .int .i64 k ∧ v = .int .u32 ((X / 2 ^ k : Nat) : Int) ∧ s = .string (txt (field X k))) (fun _ _ i => n - (intOf i).toNat)
  case atStart => exact ⟨0, by omega, rfl, by simp, rfl⟩
  case round =>
    obtain ⟨k, hk, rfl, rfl, rfl⟩ := hrel
    have hv : X / 2 ^ k ≤ X := Nat.div_le_self _ _
    by_cases hlt : k < n
    · have h1 := one_txt (X / 2 ^ k)
      have hf := Lib.hid (field_cons X k)
      have hd : Hid (X / 2 ^ k / 2 = X / 2 ^ (k + 1)) := Lib.hid (by rw [Nat.pow_succ, Nat.div_div_eq_div_mul])
      have hsz : (txt [X / 2 ^ k % 2 == 1]).size + (txt (field X k)).size ≤ 64 := by rw [txt_size, txt_size, field_length]; simp; omega
      generalize X / 2 ^ k = V at *
      go_wp2_with fail
      go_round
      case rel => exact ⟨k + 1, by omega, by go_num, iv (by rw [← hd.out]; simp), by rw [txt_append, hf.out]; rfl⟩
      case measure => simp [intOf]; omega
    · obtain rfl : k = n := by omega
      go_wp2_with fail
      go_ret
      exact ⟨rfl, rfl⟩
set_option maxHeartbeats 400000 in
theorem bitsTxt_any (s : ByteArray) (w : World) (hs : s.size ≤ 1099511627776) : Calls Tryz.prog 19 #[.string s] w fun e w' => e = .returned (.string (txt (bitsOf s.data.toList))) ∧ w = w' := by
  go_enter Tryz.func19, Tryz.ntmps19
  go_wp2_with fail
  go_loop [3, 4] (fun o i => ∃ k : Nat, k ≤ s.size ∧ i = .int .i64 k ∧ o = .string (txt (bitsOf (s.data.toList.take k)))) (fun _ i => s.size - (intOf i).toNat)
  case atStart => exact ⟨0, by omega, rfl, rfl⟩
  case round =>
    obtain ⟨k, hk, rfl, rfl⟩ := hrel
    by_cases hlt : k < s.size
    · have hc := s[k].toNat_lt
      have hsz : (txt (bitsOf (s.data.toList.take k))).size + (txt (field s[k].toNat 8)).size ≤ 10000000000000 := by
        rw [txt_size, txt_size, field_length, bitsOf_length, List.length_take]; omega
      have HT : Hid (bitsOf (s.data.toList.take (k + 1)) = bitsOf (s.data.toList.take k) ++ field s[k].toNat 8) := Lib.hid (by
        rw [List.take_succ_eq_append_getElem (by simpa using hlt), bitsOf_append]
        congr 1)
      go_wp2_with fail
      refine (fieldTxt_any s[k].toNat 8 w (by omega) (by omega)).mono ?_
      rintro e w' ⟨rfl, rfl⟩
      go_wp2_with fail
      go_round
      case rel => exact ⟨k + 1, by omega, by go_num, by rw [txt_append, HT.out]⟩
      case measure => simp [intOf]; omega
    · obtain rfl : k = s.size := by omega
      go_wp2_with fail
      go_ret
      rw [List.take_of_length_le (by simp)]
      exact ⟨rfl, rfl⟩
theorem txt_get (q : List Bool) (k : Nat) (hk : k < q.length) (h : k < (txt q).size) : ((txt q)[k].toNat : Int) = 48 + (bn q[k] : Int) := by
  have e : (txt q)[k] = chr q[k] := by
    have h2 : (txt q).data[k]'(by simpa [txt] using hk) = chr q[k] := by simp [txt]
    exact h2
  rw [e]
  unfold chr bn
  split <;> rfl
set_option maxHeartbeats 400000 in
theorem number_any (q : List Bool) (w : World) (hq : q.length ≤ 32) : Calls Tryz.prog 81 #[.string (txt q)] w fun e w' => e = .returned (.int .u32 (num q : Int)) ∧ w = w' := by
  have hts := txt_size q
  have HTS := Lib.hid hts
  have hz : ((txt q).size : Int) = (q.length : Int) := by omega
  clear hts
  go_enter Tryz.func81, Tryz.ntmps81
  go_wp2_with fail
  go_loop [3, 4] (fun v i => ∃ k : Nat, k ≤ q.length ∧ i = .int .i64 k ∧ v = .int .u32 (num (q.take k) : Int)) (fun _ i => q.length - (intOf i).toNat)
  case atStart => exact ⟨0, by omega, rfl, rfl⟩
  case round =>
    obtain ⟨k, hk, rfl, rfl⟩ := hrel
    by_cases hlt : k < q.length
    · have hlz : k < (txt q).size := by have := HTS.out; omega
      have hg := txt_get q k hlt hlz
      have hb := bn_lt q[k]
      have hv : num (q.take k) < 2 ^ 31 := Nat.lt_of_lt_of_le (num_lt _) (Nat.pow_le_pow_right (by omega) (by simp; omega))
      have HN : Hid (num (q.take (k + 1)) = 2 * num (q.take k) + bn q[k]) := Lib.hid (by rw [List.take_succ_eq_append_getElem hlt, num_snoc])
      generalize num (q.take k) = V at *
      generalize bn q[k] = B at *
      go_wp2_with fail
      go_round
      case rel => exact ⟨k + 1, by omega, by go_num, iv (by rw [HN.out]; omega)⟩
      case measure => simp [intOf]; omega
    · obtain rfl : k = q.length := by omega
      go_wp2_with fail
      go_ret
      exact ⟨rfl, rfl⟩
end Go.Proofs.YtojphcoghbiepaaGreatDoor
namespace Go.Proofs.YtojphcoghbiepaaGreatDoor
open Go.RowKit BitM
set_option linter.unusedVariables false
theorem txt_take (q : List Bool) (n : Nat) (h : n ≤ q.length) : (txt q).extract 0 n = txt (q.take n) := by
  apply ByteArray.ext
  simp [txt]
theorem txt_drop (q : List Bool) (n : Nat) (h : n ≤ q.length) : (txt q).extract n (txt q).size = txt (q.drop n) := by
  apply ByteArray.ext
  have e : (txt q).size = q.length := txt_size q
  rw [e]
  simp only [txt, ByteArray.data_extract, List.extract_toArray, List.extract_eq_take_drop, List.map_drop]
  rw [List.take_of_length_le (by simp)]
end Go.Proofs.YtojphcoghbiepaaGreatDoor
namespace Go.Proofs.YtojphcoghbiepaaGreatDoor
open Go.RowKit BitM
set_option linter.unusedVariables false
/-! ### What is written -/
/-- From the world w the writer g, whose row was v, went on: it has the bits q. -/
def Wrote (w : World) (g : Nat) (v : Value) (tk : Nat) (q : List Bool) (w' : World) : Prop :=
  ∃ v1, IsWriter w' g v1 q tk ∧ Touch (foot g v) w w' ∧ (∀ k, v1.ownBlock = some k → v.ownBlock = some k ∨ w.heap.size ≤ k)
theorem Wrote.start {w : World} {g : Nat} {v : Value} {tk : Nat} {q : List Bool} (h : IsWriter w g v q tk) : Wrote w g v tk q w := ⟨v, h, Touch.refl _ _, fun k hk => Or.inl hk⟩
theorem Wrote.put {w w' : World} {g : Nat} {v : Value} {tk : Nat} {q : List Bool} (h : Wrote w g v tk q w') (X n : Nat) (hn : n ≤ 32) (hX : X < 2 ^ n) (hq : q.length ≤ 1099511627776) :
    Calls Tryz.prog 63 #[.pointer (some ⟨g, 0, none⟩), .int .u32 (X : Int), .int .i64 (n : Int)] w' fun e w2 => e = .returned (.int .i64 0) ∧ Wrote w g v tk (q ++ field X n) w2 := by
  obtain ⟨v1, h1, h2, h3⟩ := h
  refine (put_any g v1 q tk X n w' h1 hn hX hq).mono ?_
  rintro e w2 ⟨rfl, v2, k1, k2, k3⟩
  refine ⟨rfl, v2, k1, h2.trans k2 (fun j hj => ?_), fun k hk => ?_⟩
  · rcases hj with hj | hj
    · exact Or.inl (Or.inl hj)
    · rcases h3 j hj with h | h
      · exact Or.inl (Or.inr h)
      · exact Or.inr h
  · rcases k3 k hk with h | h
    · exact h3 k h
    · exact Or.inr (Nat.le_trans h2.size h)
theorem Wrote.touch {w w' : World} {g : Nat} {v : Value} {tk : Nat} {q : List Bool} (h : Wrote w g v tk q w') : Touch (foot g v) w w' := by
  obtain ⟨v1, h1, h2, h3⟩ := h
  exact h2
theorem IsInts.other {w w' : World} {v : Value} {zs : List Int} (h : IsInts w v zs) {S : Nat → Prop} (ht : Touch S w w') (hS : ∀ k, v.ownBlock = some k → ¬ S k) : IsInts w' v zs := by
  obtain ⟨a, cap, rfl, hc⟩ := h
  refine ⟨a, cap, rfl, fun i x hx => ?_⟩
  obtain ⟨b, off, ha, hb⟩ := hc i x hx
  refine ⟨b, off, ha, ?_⟩
  rw [World.cell?_of_block (w := w) (a := ⟨b, off + i, none⟩) (ht.block b (cell_lt hb) (hS b (by rw [ha]; rfl)))]
  exact hb
theorem txt_testD (q : List Bool) (k : Nat) (hk : k < q.length) (h : k < (txt q).size) : ((txt q)[k].toNat : Int) = 48 + (bn (q.getD k false) : Int) := by
  rw [txt_get q k hk h]
  congr 3
  rw [List.getD_eq_getElem?_getD, List.getElem?_eq_getElem hk]
  rfl
theorem drop_consB (q : List Bool) (k : Nat) (h : k < q.length) : q.drop k = q.getD k false :: q.drop (k + 1) := by
  rw [List.getD_eq_getElem?_getD, List.getElem?_eq_getElem h]
  exact List.drop_eq_getElem_cons h
end Go.Proofs.YtojphcoghbiepaaGreatDoor
namespace Go.Proofs.YtojphcoghbiepaaGreatDoor
open Go.RowKit PkM BitM
set_option linter.unusedVariables false
theorem pnum_any (n : Int) (r : Bool) (w : World) (hr : r = true ↔ 2 ≤ n ∧ n ≤ 6) : Calls Tryz.prog 214 #[.int .i64 n] w fun e w' => e = .returned (.bool r) ∧ w' = w := by
  by_cases h1 : 2 ≤ n
  · by_cases h2 : n ≤ 6
    · obtain rfl : r = true := hr.2 ⟨h1, h2⟩
      clear hr
      go_enter Tryz.func214, Tryz.ntmps214
      go_wp2_with fail
      go_ret
      exact ⟨rfl, rfl⟩
    · obtain rfl : r = false := by rw [Bool.eq_false_iff]; intro h; exact h2 (hr.1 h).2
      clear hr
      go_enter Tryz.func214, Tryz.ntmps214
      go_wp2_with fail
      go_ret
      exact ⟨rfl, rfl⟩
  · obtain rfl : r = false := by rw [Bool.eq_false_iff]; intro h; exact h1 (hr.1 h).1
    clear hr
    go_enter Tryz.func214, Tryz.ntmps214
    go_wp2_with fail
    go_ret
    exact ⟨rfl, rfl⟩
theorem pk_mem {l : List Int} {k : Nat} (h : k < l.length) : l.getD k 0 ∈ l := by
  rw [List.getD_eq_getElem?_getD, List.getElem?_eq_getElem h]
  exact List.getElem_mem h
theorem pk_all {zs : List Int} {P : Int → Prop} (h : ∀ j, j < zs.length → P (zs.getD j 0)) : ∀ z ∈ zs, P z := by
  intro z hz
  obtain ⟨i, hi, rfl⟩ := List.mem_iff_getElem.1 hz
  have := h i hi
  rwa [List.getD_eq_getElem?_getD, List.getElem?_eq_getElem hi] at this
set_option maxRecDepth 100000 in
set_option maxHeartbeats 1000000 in
theorem pmay_any (v : Value) (zs : List Int) (t : Int) (r : Bool) (w : World) (hv : IsInts w v zs) (hr : r = true ↔ MayI zs t) (hz : zs.length ≤ 9223372036854775807) :
    Calls Tryz.prog 157 #[v, .int .i64 t] w fun e w' => e = .returned (.bool r) ∧ w' = w := by
  have HV := Lib.hid hv
  have HRR := Lib.hid hr
  obtain ⟨ad, cap, rfl, _⟩ := hv
  clear hr
  go_enter Tryz.func157, Tryz.ntmps157
  go_wp2_with fail
  go_loopw [9] (fun i wr => ∃ k : Nat, k ≤ zs.length ∧ i = .int .i64 k ∧ wr = w ∧ ∀ j, j < k → 0 ≤ zs.getD j 0 ∧ zs.getD j 0 < t) (fun i _ => zs.length - (intOf i).toNat)
  case atStart => exact ⟨0, by omega, rfl, rfl, fun j hj => by omega⟩
  case round =>
    obtain ⟨k, hk, rfl, rfl, hA⟩ := hrel
    have HA := Lib.hid hA
    clear hA
    by_cases hlk : k < zs.length
    · have hki : (k : Int) < (zs.length : Int) := by omega
      obtain ⟨b1, o1, k1, he1, c1⟩ := HV.out.cell hlk
      simp only [Value.slice.injEq] at he1
      obtain ⟨rfl, _, rfl⟩ := he1
      obtain ⟨x, hx⟩ : ∃ x, zs.getD k 0 = x := ⟨_, rfl⟩
      rw [hx] at c1
      have HX := Lib.hid hx
      clear hx
      by_cases h0 : x < 0
      · have hrf : r = false := by
          rw [Bool.eq_false_iff, Ne, HRR.out]
          intro h
          have := h.2.2.2.2 _ (pk_mem hlk)
          rw [HX.out] at this
          omega
        subst hrf
        go_wp2_with fail
        go_ret
        exact ⟨rfl, rfl⟩
      · by_cases h1 : t ≤ x
        · have hrf : r = false := by
            rw [Bool.eq_false_iff, Ne, HRR.out]
            intro h
            have := h.2.2.2.2 _ (pk_mem hlk)
            rw [HX.out] at this
            omega
          subst hrf
          go_wp2_with fail
          go_ret
          exact ⟨rfl, rfl⟩
        · go_wp2_with fail
          go_roundw
          case rel => exact ⟨k + 1, by omega, by go_num, (by first | rfl | trivial), fun j hj => by
            by_cases e : j = k
            · subst e; rw [HX.out]; omega
            · exact HA.out j (by omega)⟩
          case measure => simp [intOf]; omega
    · have hki : ¬ (k : Int) < (zs.length : Int) := by omega
      have hw : Hid (∀ z ∈ zs, 0 ≤ z ∧ z < t) := Lib.hid (pk_all (P := fun z => 0 ≤ z ∧ z < t) (fun j hj => HA.out j (by omega)))
      by_cases ht : 2 ≤ t ∧ t ≤ 6
      · have HL := Lib.hid (fun W => pnum_any t true W ⟨fun _ => ht, fun _ => rfl⟩)
        by_cases h1 : 1 ≤ zs.length
        · have h1i : (1 : Int) ≤ (zs.length : Int) := by omega
          by_cases h2 : zs.length ≤ 32767
          · have h2i : (zs.length : Int) ≤ 32767 := by omega
            obtain rfl : r = true := HRR.out.2 ⟨ht.1, ht.2, h1, h2, hw.out⟩
            go_wp2_with fail
            refine (HL.out _).mono ?_
            rintro e w' ⟨rfl, rfl⟩
            go_wp2_with fail
            go_ret
            exact ⟨rfl, rfl⟩
          · have h2i : ¬ (zs.length : Int) ≤ 32767 := by omega
            obtain rfl : r = false := by rw [Bool.eq_false_iff, Ne, HRR.out]; exact fun h => h2 h.2.2.2.1
            go_wp2_with fail
            refine (HL.out _).mono ?_
            rintro e w' ⟨rfl, rfl⟩
            go_wp2_with fail
            go_ret
            refine ⟨?_, rfl⟩
            show Ending.returned (.bool (decide ((zs.length : Int) ≤ 32767))) = _
            rw [decide_eq_false (by omega)]
        · have h1i : ¬ (1 : Int) ≤ (zs.length : Int) := by omega
          obtain rfl : r = false := by rw [Bool.eq_false_iff, Ne, HRR.out]; exact fun h => h1 h.2.2.1
          go_wp2_with fail
          refine (HL.out _).mono ?_
          rintro e w' ⟨rfl, rfl⟩
          go_wp2_with fail
          go_ret
          exact ⟨rfl, rfl⟩
      · obtain rfl : r = false := by rw [Bool.eq_false_iff, Ne, HRR.out]; exact fun h => ht ⟨h.1, h.2.1⟩
        have HL := Lib.hid (fun W => pnum_any t false W ⟨fun e => (by cases e), fun e => absurd e ht⟩)
        clear ht
        go_wp2_with fail
        refine (HL.out _).mono ?_
        rintro e w' ⟨rfl, rfl⟩
        go_wp2_with fail
        go_ret
        exact ⟨rfl, rfl⟩
/-! ### slices.Index -/
def IdxP (zs : List Int) (x R : Int) : Prop := (∃ k : Nat, R = (k : Int) ∧ k < zs.length ∧ zs.getD k 0 = x ∧ ∀ j, j < k → zs.getD j 0 ≠ x) ∨ (R = -1 ∧ ∀ j, j < zs.length → zs.getD j 0 ≠ x)
theorem IdxP.there {zs : List Int} {x R : Int} (h : IdxP zs x R) {k : Nat} (hk : k < zs.length) (hx : zs.getD k 0 = x) (hn : ∀ j, j < k → zs.getD j 0 ≠ x) : R = (k : Int) := by
  rcases h with ⟨k2, rfl, h1, h2, h3⟩ | ⟨rfl, h⟩
  · rcases Nat.lt_trichotomy k2 k with h | h | h
    · exact absurd h2 (hn k2 h)
    · rw [h]
    · exact absurd hx (h3 k h)
  · exact absurd hx (h k hk)
theorem IdxP.none {zs : List Int} {x R : Int} (h : IdxP zs x R) (hn : ∀ j, j < zs.length → zs.getD j 0 ≠ x) : R = -1 := by
  rcases h with ⟨k2, rfl, h1, h2, h3⟩ | ⟨rfl, h⟩
  · exact absurd h2 (hn k2 h1)
  · rfl
set_option maxRecDepth 100000 in
set_option maxHeartbeats 1000000 in
theorem sindex_any (v : Value) (zs : List Int) (x R : Int) (w : World) (hv : IsInts w v zs) (hR : IdxP zs x R) (hz : zs.length ≤ 9223372036854775807) :
    Calls Tryz.prog 155 #[v, .int .i64 x] w fun e w' => e = .returned (.int .i64 R) ∧ w' = w := by
  have HV := Lib.hid hv
  have HRR := Lib.hid hR
  obtain ⟨ad, cap, rfl, _⟩ := hv
  clear hR
  go_enter Tryz.func155, Tryz.ntmps155
  go_wp2_with fail
  go_loopw [8] (fun i wr => ∃ k : Nat, k ≤ zs.length ∧ i = .int .i64 k ∧ wr = w ∧ ∀ j, j < k → zs.getD j 0 ≠ x) (fun i _ => zs.length - (intOf i).toNat)
  case atStart => exact ⟨0, by omega, rfl, rfl, fun j hj => by omega⟩
  case round =>
    obtain ⟨k, hk, rfl, rfl, hA⟩ := hrel
    have HA := Lib.hid hA
    clear hA
    by_cases hlk : k < zs.length
    · have hki : (k : Int) < (zs.length : Int) := by omega
      obtain ⟨b1, o1, k1, he1, c1⟩ := HV.out.cell hlk
      simp only [Value.slice.injEq] at he1
      obtain ⟨rfl, _, rfl⟩ := he1
      obtain ⟨y, hy⟩ : ∃ y, zs.getD k 0 = y := ⟨_, rfl⟩
      rw [hy] at c1
      have HY := Lib.hid hy
      clear hy
      by_cases he : x = y
      · have hd : (x == y) = true := by rw [he]; exact beq_self_eq_true _
        have hR := HRR.out.there hlk (HY.out.trans he.symm) HA.out
        subst hR
        clear he
        go_wp2_with fail
        go_ret
        exact ⟨rfl, rfl⟩
      · have hd : (x == y) = false := by rw [beq_eq_false_iff_ne]; exact he
        have HE := Lib.hid he
        clear he
        go_wp2_with fail
        go_roundw
        case rel => exact ⟨k + 1, by omega, by go_num, (by first | rfl | trivial), fun j hj => by
          by_cases e : j = k
          · subst e; rw [HY.out]; exact fun h => HE.out h.symm
          · exact HA.out j (by omega)⟩
        case measure => simp [intOf]; omega
    · have hki : ¬ (k : Int) < (zs.length : Int) := by omega
      have hR := HRR.out.none (fun j hj => HA.out j (by omega))
      subst hR
      go_wp2_with fail
      go_ret
      exact ⟨rfl, rfl⟩
/-! ### The list -/
def ordF (o : List Nat) (k : Nat) : Value := .int .i64 ((o.getD k 0 : Nat) : Int)
def ordA (o : List Nat) : Array Value := cellsF 6 (ordF o)
theorem ordA_size (o : List Nat) : (ordA o).size = 6 := cellsF_size 6 _
theorem ordA_one (o : List Nat) : (ordA o).all (·.oneCell') = true := by
  rw [Array.all_eq_true]
  intro i hi
  have h1 : (ordA o)[i]? = some (ordF o i) := cellsF_get 6 _ (by rw [ordA_size] at hi; exact hi)
  rw [Array.getElem?_eq_getElem hi] at h1
  rw [Option.some.inj h1]
  rfl
def zsix : Nat → Value := fun _ => .int .i64 0
/-- What is known while a list is laid out. -/
def InO (w wr : World) (k : Nat) : Prop :=
  Below w.heap.size w wr ∧ ObjF 6 161 wr w.heap.size zsix ∧ ObjF 6 161 wr (w.heap.size + 1) (fun j => if j < k then .int .i64 (j : Int) else .int .i64 0)
set_option maxRecDepth 100000 in
set_option maxHeartbeats 1000000 in
theorem inOrder_any (w : World) : Calls Tryz.prog 158 #[] w fun e w' => e = .returned (.agg (ordA O6)) ∧ Below w.heap.size w w' := by
  have hb1 := (Below.refl w.heap.size w).alloc (Nat.le_refl _) (.cells #[.int .i64 0, .int .i64 0, .int .i64 0, .int .i64 0, .int .i64 0, .int .i64 0] 161)
  have hg1 := heap_alloc_new w (.cells #[.int .i64 0, .int .i64 0, .int .i64 0, .int .i64 0, .int .i64 0, .int .i64 0] 161)
  have hs1 : (w.alloc (.cells #[.int .i64 0, .int .i64 0, .int .i64 0, .int .i64 0, .int .i64 0, .int .i64 0] 161)).heap.size = w.heap.size + 1 := by show (w.heap.push _).size = _; simp
  have HI : Hid (InO w ((w.alloc (.cells #[.int .i64 0, .int .i64 0, .int .i64 0, .int .i64 0, .int .i64 0, .int .i64 0] 161)).alloc (.cells #[.int .i64 0, .int .i64 0, .int .i64 0, .int .i64 0, .int .i64 0, .int .i64 0] 161)) 0) := Lib.hid (by
    refine ⟨hb1.alloc hb1.size _, ?_, ?_⟩
    · exact (alloc_old (by rw [hs1]; omega)).trans hg1
    · have := heap_alloc_new (w.alloc (.cells #[.int .i64 0, .int .i64 0, .int .i64 0, .int .i64 0, .int .i64 0, .int .i64 0] 161)) (.cells #[.int .i64 0, .int .i64 0, .int .i64 0, .int .i64 0, .int .i64 0, .int .i64 0] 161)
      rw [hs1] at this
      exact this)
  clear hb1 hg1 hs1
  go_enter Tryz.func158, Tryz.ntmps158
  go_wp2_with fail
  go_loopw [3] (fun i wr => ∃ k : Nat, k ≤ 6 ∧ i = .int .i64 k ∧ InO w wr k) (fun i _ => 6 - (intOf i).toNat)
  case atStart => exact ⟨0, by omega, rfl, HI.out⟩
  case round =>
    clear HI
    obtain ⟨k, hk, rfl, hI⟩ := hrel
    have HI := Lib.hid hI
    clear hI
    by_cases hlt : k < 6
    · have hki : (k : Int) < 6 := by omega
      have hk0 : (0 : Int) ≤ (k : Int) := by omega
      obtain ⟨c0, f0⟩ := HI.out.2.2.cell hlt
      have HS : Hid (InO w (wr.setCell ⟨w.heap.size + 1, k, none⟩ (.int .i64 (k : Int))) (k + 1)) := Lib.hid (by
        obtain ⟨h1, h2, h3⟩ := HI.out
        refine ⟨h1.trans (touch_cell (b := w.heap.size + 1) (Touch.refl _ _) |>.below h1.size (fun i hi => by have : i = w.heap.size + 1 := hi; omega)), h2.other (touch_cell (b := w.heap.size + 1) (Touch.refl _ _)) (by show ¬ w.heap.size = w.heap.size + 1; omega), (h3.set k _).ext (fun j hj => ?_)⟩
        unfold upd
        by_cases e : j = k
        · subst e
          rw [if_pos rfl, if_pos (by omega)]
        · rw [if_neg e]
          show (if j < k then _ else _) = _
          by_cases e2 : j < k
          · rw [if_pos e2, if_pos (by omega)]
          · rw [if_neg e2, if_neg (by omega)])
      rw [if_neg (by omega)] at c0
      obtain ⟨N, hN⟩ : ∃ N, w.heap.size + 1 = N := ⟨_, rfl⟩
      rw [hN] at c0 f0 HS
      simp only [hN]
      go_wp2_with fail
      go_roundw
      case rel => exact ⟨k + 1, by omega, by go_num, HS.out⟩
      case measure => simp [intOf]; omega
    · obtain rfl : k = 6 := by omega
      obtain ⟨hb, h0, hc⟩ := HI.out
      have hA : cellsF 6 (fun j => if j < 6 then Value.int .i64 (j : Int) else .int .i64 0) = ordA O6 := by
        refine cellsF_congr (fun j hj => ?_)
        rcases (by omega : j = 0 ∨ j = 1 ∨ j = 2 ∨ j = 3 ∨ j = 4 ∨ j = 5) with rfl | rfl | rfl | rfl | rfl | rfl <;> rfl
      unfold ObjF at h0 hc
      rw [hA] at hc
      have hi : (Tryz.prog.info? 161).map (·.size) = some (ordA O6).size := by rw [ordA_size]; kernel_rfl
      have ha := ordA_one O6
      have h16 : (cellsF 6 zsix).size = (ordA O6).size := by rw [ordA_size]; rfl
      obtain ⟨A, hA2⟩ : ∃ A, ordA O6 = A := ⟨_, rfl⟩
      have HA2 := Lib.hid hA2
      rw [hA2] at hc hi ha h16
      generalize cellsF 6 zsix = Z0 at *
      clear HI hA hA2
      go_wp2_with (first | (refine wpList_load_row rfl 161 _ rfl (w.heap.size + 1) rfl 161 A (0, 0) _ hc Tryz.underlying161 rfl hi ?_) | (refine wpList_store_row rfl 161 _ _ rfl w.heap.size A rfl rfl 161 Z0 h0 hi h16 ha ?_))
      refine bodyPost_ret (v := .agg A) (results_cell_row rfl _ _ w.heap.size 161 A (0, 0) _ rfl (setRow_heap wr _ Z0 A 161 _ h0) Tryz.underlying161 rfl hi) rfl ⟨by rw [HA2.out], ?_⟩
      exact hb.trans ⟨rfl, rfl, rfl, by simp [World.setRow], fun j hj => setRow_other wr _ j _ (by omega)⟩
/-- From the cell off on, block b holds a list in this order. -/
def LstAt (n : Nat) (T : TypeId) (w : World) (b off : Nat) (F : Nat → Value) (o : List Nat) : Prop := ObjF n T w b F ∧ o.length = 6 ∧ off + 6 ≤ n ∧ ∀ j, j < 6 → F (off + j) = ordF o j
theorem LstAt.ints {n : Nat} {T : TypeId} {w : World} {b off : Nat} {F : Nat → Value} {o : List Nat} (h : LstAt n T w b off F o) (k c : Nat) (hk : k ≤ 6) : IsInts w (.slice (some ⟨b, off, none⟩) k c) (toI (o.take k)) := by
  obtain ⟨h1, h2, h3, h4⟩ := h
  refine ⟨_, c, by rw [toI_length, List.length_take, h2, Nat.min_eq_left hk], fun i x hx => ⟨b, off, rfl, ?_⟩⟩
  obtain ⟨hi, hx2⟩ := List.getElem?_eq_some_iff.1 hx
  rw [toI_length, List.length_take] at hi
  rw [(h1.cell (i := off + i) (by omega)).1, h4 i (by omega)]
  unfold ordF
  have h5 := toI_getD (o.take k) i
  rw [List.getD_eq_getElem?_getD, hx] at h5
  have h6 : (o.take k).getD i 0 = o.getD i 0 := by
    rw [List.getD_eq_getElem?_getD, List.getD_eq_getElem?_getD, List.getElem?_take, if_pos (by omega)]
  rw [h6] at h5
  rw [← h5]
  rfl
theorem tch_getD (o : List Nat) (i j : Nat) (hi : i < o.length) (hj : j < o.length) : (tch o i).getD j 0 = if j = 0 then o.getD i 0 else if j ≤ i then o.getD (j - 1) 0 else o.getD j 0 := by
  rw [tch_cons o i hi]
  cases j with
  | zero =>
    rw [if_pos rfl, List.getD_cons_zero, List.getD_eq_getElem?_getD, List.getElem?_eq_getElem hi]
    rfl
  | succ m =>
    rw [if_neg (by omega), List.getD_cons_succ, List.getD_eq_getElem?_getD]
    by_cases h : m + 1 ≤ i
    · rw [if_pos h, List.getElem?_append_left (by rw [List.length_take]; omega), List.getElem?_take, if_pos (by omega), List.getD_eq_getElem?_getD]
      rfl
    · rw [if_neg h, List.getElem?_append_right (by rw [List.length_take]; omega), List.length_take, Nat.min_eq_left (by omega), List.getElem?_drop, List.getD_eq_getElem?_getD]
      congr 2
      omega
/-- The cells behind the copying. -/
def cpF (F : Nat → Value) (off i : Nat) (o : List Nat) : Nat → Value :=
  fun k => if k < off + 1 then F k else if k < off + 1 + ((toI (o.take i)).map iv64).length then ((toI (o.take i)).map iv64).getD (k - (off + 1)) (F k) else F k
theorem cpF_at {n : Nat} {T : TypeId} {w : World} {b off : Nat} {F : Nat → Value} {o : List Nat} (h : LstAt n T w b off F o) {i : Nat} (hi : i < 6) (j : Nat) (hj : j < 6) :
    upd (cpF F off i o) off (ordF o i) (off + j) = ordF (tch o i) j := by
  obtain ⟨h1, h2, h3, h4⟩ := h
  have hl : ((toI (o.take i)).map iv64).length = i := by rw [List.length_map, toI_length, List.length_take]; omega
  unfold ordF
  rw [tch_getD o i j (by omega) (by omega)]
  by_cases e : j = 0
  · subst e
    rw [Nat.add_zero, upd_same, if_pos rfl]
  · rw [upd_ne _ _ (by omega), if_neg e]
    unfold cpF
    rw [if_neg (by omega), hl]
    by_cases c : j ≤ i
    · rw [if_pos (by omega), if_pos c]
      obtain ⟨m, rfl⟩ : ∃ m, j = m + 1 := ⟨j - 1, by omega⟩
      rw [show off + (m + 1) - (off + 1) = m by omega, Nat.add_sub_cancel, List.getD_eq_getElem?_getD, List.getElem?_map]
      have h5 := toI_getD (o.take i) m
      have h6 : (o.take i).getD m 0 = o.getD m 0 := by
        rw [List.getD_eq_getElem?_getD, List.getD_eq_getElem?_getD, List.getElem?_take, if_pos (by omega)]
      rw [h6, List.getD_eq_getElem?_getD, List.getElem?_eq_getElem (by rw [toI_length, List.length_take]; omega)] at h5
      rw [List.getElem?_eq_getElem (by rw [toI_length, List.length_take]; omega)]
      show iv64 _ = _
      unfold iv64
      rw [← h5]
      rfl
    · rw [if_neg (by omega), if_neg c, h4 j hj]
      rfl
theorem cpF_far (F : Nat → Value) (off i : Nat) (o : List Nat) (x : Value) (hi : i < 6) (k : Nat) (hk : k < off ∨ off + 6 ≤ k) : upd (cpF F off i o) off x k = F k := by
  have hl : ((toI (o.take i)).map iv64).length ≤ i := by rw [List.length_map, toI_length, List.length_take]; omega
  rw [upd_ne _ _ (by omega)]
  unfold cpF
  rcases hk with hk | hk
  · rw [if_pos (by omega)]
  · rw [if_neg (by omega), if_neg (by omega)]
theorem copy_pk {n : Nat} {T : TypeId} {w : World} {b off : Nat} {F : Nat → Value} {o : List Nat} (h : LstAt n T w b off F o) (i ty : Nat) (hi : i < 6) :
    (Builtin.copy_ #[28, 28] ty #[.slice (some ⟨b, off + 1, none⟩) 5 5, .slice (some ⟨b, off, none⟩) i 6]).run Tryz.prog w = .ok (goInt i) (w.setRow b (cellsF n (cpF F off i o))) := by
  obtain ⟨h1, h2, h3, h4⟩ := id h
  have hl : ((toI (o.take i)).map iv64).length = i := by rw [List.length_map, toI_length, List.length_take]; omega
  have hm : Nat.min i 5 = i := Nat.min_eq_left (by omega)
  have hI := h.ints i 6 (by omega)
  have := run_copy_row (P := Tryz.prog) w 28 28 ty 3 b (off + 1) 5 5 ⟨b, off, none⟩ i 6 (cellsF n F) T ((toI (o.take i)).map iv64) Tryz.underlying28 (by kernel_rfl) h1 (by rw [hl, hm]) (fun j v hj => by
    rw [List.getElem?_map] at hj
    obtain ⟨x, hx, rfl⟩ := Option.map_eq_some_iff.1 hj
    obtain ⟨a, cap, he, hc⟩ := hI
    obtain ⟨b2, off2, ha, hb⟩ := hc j x hx
    simp only [Value.slice.injEq] at he
    rw [← he.1] at ha
    simp only [Option.some.injEq, Addr.mk.injEq, and_true] at ha
    obtain ⟨rfl, rfl⟩ := ha
    rw [Addr.add_lit]
    exact hb) (by rw [hl, cellsF_size]; omega) (fun v hv => by
    obtain ⟨x, _, rfl⟩ := List.mem_map.1 hv
    rfl)
  rw [cellsF_part n F (off + 1) _ (by rw [hl]; omega), hl] at this
  unfold cpF
  rw [hl]
  exact this
/-- A builtin copy whose run is known. -/
theorem wpList_copyRunP {P : Program} {ops : Array Oper} {rest : List Oper} {o : Oper} {a : Act} {w : World} {Q : Exit → Act → World → Prop} (hgd : o.guard = none) (d s : Operand) (t t' : TypeId)
    (ho : o.op = .call { callee := .builtin .copy, args := #[d, s], argTypes := #[t, t'] }) (v u : Value) (hd : a.eval d = v) (hs : a.eval s = u) {v' : Value} {w' : World}
    (hr : (Builtin.copy_ #[t, t'] o.type #[v, u]).run P w = .ok v' w') (h : wpList P ops Q rest (a.put o.dst v') w') : wpList P ops Q (o :: rest) a w :=
  wpList_plain hgd fun K hK => by
    unfold Oper.wp execOp
    simp only [ho, resolve, invoke, builtin, Sem.run_bind, Sem.run_pure, Result.andThen_ok, List.map_toArray, List.map_cons, List.map_nil, hd, hs, hr]
    exact hK _ _ h
set_option maxRecDepth 100000 in
theorem sl_from1 (W : World) (b off : Nat) : (Instr.sliceAt 161 (.pointer (some ⟨b, off, none⟩)) (some (.int .i64 1)) none none).run Tryz.prog W = .ok (.slice (some ⟨b, off + 1, none⟩) 5 5) W := by
  have e : Tryz.prog.arrayLen 161 = 6 := by kernel_rfl
  have hs : (sizeOf (Tryz.prog.elem 161)).run Tryz.prog W = .ok 1 W := by kernel_rfl
  rfl
set_option maxRecDepth 100000 in
theorem sl_to (W : World) (b off i : Nat) (hi : i ≤ 6) : (Instr.sliceAt 161 (.pointer (some ⟨b, off, none⟩)) none (some (.int .i64 (i : Int))) none).run Tryz.prog W = .ok (.slice (some ⟨b, off, none⟩) i 6) W := by
  have e : Tryz.prog.arrayLen 161 = 6 := by kernel_rfl
  have hs : (sizeOf (Tryz.prog.elem 161)).run Tryz.prog W = .ok 1 W := by kernel_rfl
  rw [run_sliceAt_array_h W _ ⟨b, off, none⟩ (by kernel_rfl) .i64 (i : Int) (by omega) (by rw [e]; omega), hs]
  simp [Result.andThen, slicedAt, e, Addr.add]
set_option maxRecDepth 100000 in
set_option maxHeartbeats 1000000 in
theorem ptake_any (n : Nat) (T : TypeId) (b off i : Nat) (F : Nat → Value) (o : List Nat) (w : World) (h : LstAt n T w b off F o) (hi : i < 6) :
    Calls Tryz.prog 215 #[.pointer (some ⟨b, off, none⟩), .int .i64 (i : Int)] w fun e w' => e = .returned (ordF o i) ∧ (∃ F', LstAt n T w' b off F' (tch o i) ∧ ∀ k, (k < off ∨ off + 6 ≤ k) → F' k = F k) ∧ Touch (· = b) w w' := by
  have H := Lib.hid h
  have hi2 : (i : Int) < 6 := by omega
  have hi0 : (0 : Int) ≤ (i : Int) := by omega
  have hs1 := fun W => sl_from1 W b off
  have hs2 := fun W => sl_to W b off i (by omega)
  have hoff := h.2.2.1
  have c0 : w.cell? ⟨b, off + i, none⟩ = some (ordF o i) := by rw [(h.1.cell (i := off + i) (by omega)).1, h.2.2.2 i hi]
  have HCP := Lib.hid (fun (ty : Nat) => copy_pk (w := w.drewN 1) (T := T) (F := F) (o := o) ⟨h.1.drewN 1, h.2⟩ i ty hi)
  have HAT := Lib.hid (fun j hj => cpF_at h hi j hj)
  obtain ⟨X, hX⟩ : ∃ X, ordF o i = .int .i64 X := ⟨_, rfl⟩
  rw [hX] at c0 HAT ⊢
  clear h hX
  generalize hG : cpF F off i o = G at *
  have HG := Lib.hid hG
  clear hG
  go_enter Tryz.func215, Tryz.ntmps215
  go_wp2_with fail
  go_still_tail 7, (by kernel_rfl)
  refine wpList_copyRunP rfl _ _ 28 28 rfl _ _ rfl rfl (HCP.out _) ?_
  have hset : ((w.drewN 1).setRow b (cellsF n G)).heap[b]? = some (.cells (cellsF n G) T (0, 0)) := setRow_heap _ _ _ _ _ _ (H.out.1.drewN 1)
  have hT1 : Touch (· = b) w ((w.drewN 1).setRow b (cellsF n G)) := ⟨rfl, rfl, rfl, by simp [World.setRow, World.drewN], fun j _ hj => setRow_other (w.drewN 1) b j _ hj⟩
  generalize (w.drewN 1).setRow b (cellsF n G) = W1 at *
  have HO : Hid (ObjF n T W1 b G) := Lib.hid hset
  have HT1 := Lib.hid hT1
  obtain ⟨d0, d1⟩ := HO.out.cell (i := off) (by omega)
  clear hset hT1 HCP hs1 hs2
  go_wp2_with fail
  go_ret
  refine ⟨rfl, ⟨_, ⟨HO.out.set off _, ?_, H.out.2.2.1, HAT.out⟩, ?_⟩, touch_cell HT1.out⟩
  · rw [tch_length o i (by rw [H.out.2.1]; exact hi)]
    exact H.out.2.1
  · intro k hk
    rw [← HG.out]
    exact cpF_far F off i o _ hi k hk
end Go.Proofs.YtojphcoghbiepaaGreatDoor
namespace Go.Proofs.YtojphcoghbiepaaGreatDoor
open Go.RowKit PkM BitM
set_option linter.unusedVariables false
set_option maxRecDepth 100000 in
theorem sl_all (W : World) (b off : Nat) : (Instr.sliceAt 161 (.pointer (some ⟨b, off, none⟩)) none none none).run Tryz.prog W = .ok (.slice (some ⟨b, off, none⟩) 6 6) W := by rfl
theorem idx_six {o : List Nat} {p : Nat} (hp : p ∈ o) : IdxP (toI o) (p : Int) ((o.idxOf p : Nat) : Int) := by
  have hi : o.idxOf p < o.length := List.idxOf_lt_length_of_mem hp
  refine Or.inl ⟨_, rfl, by rw [toI_length]; exact hi, ?_, fun j hj h => ?_⟩
  · rw [toI_getD, List.getD_eq_getElem?_getD, List.getElem?_eq_getElem hi, List.getElem_idxOf]
    rfl
  · rw [toI_getD] at h
    have hj2 : j < o.length := by omega
    refine idx_first hj ?_
    rw [List.getD_eq_getElem?_getD, List.getElem?_eq_getElem hj2] at h
    rw [List.getElem?_eq_getElem hj2]
    congr 1
    have h2 : ((o[j] : Nat) : Int) = (p : Int) := h
    omega
set_option maxRecDepth 100000 in
set_option maxHeartbeats 1000000 in
theorem pplace_any (n : Nat) (T : TypeId) (b off p : Nat) (F : Nat → Value) (o : List Nat) (w : World) (h : LstAt n T w b off F o) (hp : p ∈ o) :
    Calls Tryz.prog 159 #[.pointer (some ⟨b, off, none⟩), .int .i64 (p : Int)] w fun e w' => e = .returned (.int .i64 ((o.idxOf p : Nat) : Int)) ∧ (∃ F', LstAt n T w' b off F' (tch o (o.idxOf p)) ∧ ∀ k, (k < off ∨ off + 6 ≤ k) → F' k = F k) ∧ Touch (· = b) w w' := by
  have H := Lib.hid h
  have hi : o.idxOf p < o.length := List.idxOf_lt_length_of_mem hp
  rw [h.2.1] at hi
  have hI := h.ints 6 6 (by omega)
  rw [List.take_of_length_le (by rw [h.2.1]; exact Nat.le_refl _)] at hI
  have HIX := Lib.hid (fun (R : Int) (hR : R = ((o.idxOf p : Nat) : Int)) => sindex_any _ (toI o) (p : Int) R w hI (by rw [hR]; exact idx_six hp) (by rw [toI_length, h.2.1]; omega))
  have hs := fun W => sl_all W b off
  obtain ⟨I, hII⟩ : ∃ I, o.idxOf p = I := ⟨_, rfl⟩
  rw [hII] at hi HIX ⊢
  clear h hp hI hII
  go_enter Tryz.func159, Tryz.ntmps159
  go_wp2_with fail
  refine (HIX.out _ rfl).mono ?_
  rintro e w' ⟨rfl, rfl⟩
  go_wp2_with fail
  refine (ptake_any n T b off I F o _ H.out hi).mono ?_
  rintro e w1 ⟨rfl, hL, hT⟩
  have HL := Lib.hid hL
  have HT := Lib.hid hT
  clear hL hT
  go_wp2_with fail
  go_ret
  exact ⟨rfl, HL.out, HT.out⟩
/-- A box that holds a list in order. -/
def boxed (w : World) : World := (w.alloc (.cells #[.int .i64 0, .int .i64 0, .int .i64 0, .int .i64 0, .int .i64 0, .int .i64 0] 161)).setRow w.heap.size (ordA O6)
theorem boxed_lst (w : World) : LstAt 6 161 (boxed w) w.heap.size 0 (ordF O6) O6 := by
  refine ⟨?_, rfl, Nat.le_refl _, fun j hj => by rw [Nat.zero_add]⟩
  exact setRow_heap _ _ _ _ _ _ (heap_alloc_new w _)
theorem boxed_below (w : World) : Below w.heap.size w (boxed w) := below_setRow ((Below.refl _ _).alloc (Nat.le_refl _) _) (Nat.le_refl _) _
theorem enc_all {ps : List Nat} {t : Nat} : (allB ps t).length = 18 + (encK ps ps.length).length := by rw [allB_length, encK_all ps _ (Nat.le_refl _)]
theorem info_list : (Tryz.prog.info? 161).map (·.size) = some (ordA O6).size := by rw [ordA_size]; kernel_rfl
theorem six_size : (#[.int .i64 0, .int .i64 0, .int .i64 0, .int .i64 0, .int .i64 0, .int .i64 0] : Array Value).size = (ordA O6).size := by rw [ordA_size]; rfl
set_option maxRecDepth 100000 in
set_option maxHeartbeats 4000000 in
theorem pbits_any (l : Value) (ps : List Nat) (t : Nat) (w : World) (hv : IsInts w l (toI ps)) (hm : May ps t) :
    Calls Tryz.prog 101 #[l, .int .i64 (t : Int)] w fun e w' => e = .returned (.tuple #[.int .i64 ((allB ps t).length : Int), .int .i64 0]) ∧ Below w.heap.size w w' := by
  have HV := Lib.hid hv
  have HM := Lib.hid hm
  have hlz := toI_length ps
  have HMAY := Lib.hid (pmay_any l (toI ps) (t : Int) true w hv ⟨fun _ => hm.int, fun _ => rfl⟩ (by have := hm.2.2.2.1; omega))
  have hn1 := hm.2.2.1
  have hn2 := hm.2.2.2.1
  obtain ⟨ad, cap, rfl, _⟩ := hv
  obtain ⟨N, hN⟩ : ∃ N, ps.length = N := ⟨_, rfl⟩
  rw [hlz] at HV HMAY ⊢
  rw [hN] at hn1 hn2 hlz HV HMAY ⊢
  have HZ := Lib.hid hlz
  have HN := Lib.hid hN
  have HALL : Hid ((allB ps t).length = 18 + (encK ps N).length) := Lib.hid (by rw [enc_all, hN])
  clear hm hlz hN
  go_enter Tryz.func101, Tryz.ntmps101
  go_wp2_with fail
  refine HMAY.out.mono ?_
  rintro e w' ⟨rfl, rfl⟩
  go_wp2_with fail
  refine (inOrder_any w').mono ?_
  rintro e w1 ⟨rfl, hb1⟩
  have HB1 := Lib.hid hb1
  have hg1 := heap_alloc_new w1 (.cells #[.int .i64 0, .int .i64 0, .int .i64 0, .int .i64 0, .int .i64 0, .int .i64 0] 161)
  have HBX : Hid (LstAt 6 161 (boxed w1) w1.heap.size 0 (ordF O6) O6) := Lib.hid (boxed_lst w1)
  have HBB : Hid (Below w'.heap.size w' (boxed w1)) := Lib.hid (hb1.trans ((boxed_below w1).mono hb1.size))
  have HBS := Lib.hid hb1.size
  clear hb1
  go_wp2_with (refine wpList_store_row rfl 161 _ _ rfl w1.heap.size (ordA O6) rfl rfl 161 _ hg1 info_list six_size (ordA_one O6) ?_)
  change Code.wp _ _ _ _ (boxed w1)
  obtain ⟨B, hB⟩ : ∃ B, w1.heap.size = B := ⟨_, rfl⟩
  rw [hB] at HBX HBS
  simp only [hB]
  clear hg1 hB
  generalize boxed w1 = w2 at *
  go_loopw [6, 17] (fun vn vk wr => ∃ k : Nat, vk = .int .i64 (k : Int) ∧ k ≤ N ∧ vn = .int .i64 ((18 + (encK ps k).length : Nat) : Int) ∧ Below w'.heap.size w' wr ∧ ∃ F, LstAt 6 161 wr B 0 F (ordK ps k)) (fun _ vk _ => N - (intOf vk).toNat)
  case atStart => exact ⟨0, rfl, by omega, rfl, HBB.out, _, HBX.out⟩
  case round =>
    clear HBX HBB HB1
    obtain ⟨k, rfl, hk, rfl, hb, F, hL⟩ := hrel
    have HB := Lib.hid hb
    have HL := Lib.hid hL
    clear hb hL
    have hkl := encK_len ps HM.out.2.1 HM.out.2.2.2.2 k (by rw [HN.out]; exact hk)
    by_cases hlk : k < N
    · have hki : (k : Int) < (N : Int) := by omega
      have hkp : k < ps.length := by rw [HN.out]; exact hlk
      have HVk := Lib.hid (HV.out.below (zs := toI ps) HB.out)
      obtain ⟨b1, o1, k1, he1, c1⟩ := HVk.out.cell (k := k) (by rw [HZ.out]; exact hlk)
      rw [HZ.out] at he1
      simp only [Value.slice.injEq] at he1
      obtain ⟨rfl, _, rfl⟩ := he1
      rw [toI_getD] at c1
      have hpm : ps.getD k 0 < t := by
        rw [List.getD_eq_getElem?_getD, List.getElem?_eq_getElem hkp]
        exact HM.out.2.2.2.2 _ (List.getElem_mem _)
      have hO := ordK_ord ps HM.out.2.1 HM.out.2.2.2.2 k (by omega)
      have hpo : ps.getD k 0 ∈ ordK ps k := List.mem_of_mem_take ((hO.1.2 _).1 hpm)
      have hIl := (hO.1.place HM.out.2.1 hpm).1
      have ht6 := HM.out.2.1
      have HEN := Lib.hid (encK_next ps hkp)
      have HON := Lib.hid (ordK_next ps hkp)
      have HPL := Lib.hid (pplace_any 6 161 B 0 (ps.getD k 0) F (ordK ps k) wr HL.out hpo)
      obtain ⟨I, hI⟩ : ∃ I, (ordK ps k).idxOf (ps.getD k 0) = I := ⟨_, rfl⟩
      rw [hI] at HEN HON HPL hIl
      obtain ⟨E, hE⟩ : ∃ E, (encK ps k).length = E := ⟨_, rfl⟩
      have HE2 : Hid ((encK ps (k + 1)).length = E + (I + 1)) := Lib.hid (by rw [HEN.out, List.length_append, List.length_append, List.length_replicate, hE]; rfl)
      rw [hE] at hkl ⊢
      obtain ⟨x, hx⟩ : ∃ x, ps.getD k 0 = x := ⟨_, rfl⟩
      rw [hx] at c1 HPL
      clear hpm hO hpo hI hE hx HEN HVk hkp
      go_wp2_with fail
      refine HPL.out.mono ?_
      rintro e w3 ⟨rfl, ⟨F2, hL2, _⟩, hT2⟩
      have HL2 := Lib.hid hL2
      have HB2 : Hid (Below w'.heap.size w' w3) := Lib.hid (HB.out.trans (hT2.below HB.out.size (fun i hi => by have : i = B := hi; have := HBS.out; omega)))
      clear hL2 hT2
      go_wp2_with fail
      go_roundw
      case rel => exact ⟨k + 1, by go_num, by omega, iv (by have := HE2.out; omega), HB2.out, F2, by rw [HON.out]; exact HL2.out⟩
      case measure => simp [intOf]; omega
    · have hki : ¬ (k : Int) < (N : Int) := by omega
      obtain rfl : k = N := by omega
      go_wp2_with fail
      go_ret2
      refine ⟨?_, HB.out⟩
      show Ending.returned (.tuple #[.int .i64 (18 + ((encK ps k).length : Int)), .int .i64 0]) = _
      rw [HALL.out]
      simp
end Go.Proofs.YtojphcoghbiepaaGreatDoor
namespace Go.Proofs.YtojphcoghbiepaaGreatDoor
open Go.RowKit PkM BitM
set_option linter.unusedVariables false
/-- The cells behind storing some side by side. -/
def setsF (F : Nat → Value) : Nat → List Value → Nat → Value
  | _, [] => F
  | o, v :: r => setsF (upd F o v) (o + 1) r
theorem ObjF.sets {n : Nat} {T : TypeId} {b : Nat} : ∀ (vs : List Value) (o : Nat) (w : World) (F : Nat → Value), ObjF n T w b F → ObjF n T (w.setCells b o vs) b (setsF F o vs)
  | [], _, _, _, h => h
  | v :: r, o, w, F, h => ObjF.sets r (o + 1) _ _ (h.set o v)
theorem setsF_far : ∀ (vs : List Value) (o : Nat) (F : Nat → Value) (k : Nat), (k < o ∨ o + vs.length ≤ k) → setsF F o vs k = F k
  | [], _, _, _, _ => rfl
  | v :: r, o, F, k, h => by
    rw [List.length_cons] at h
    rw [setsF, setsF_far r (o + 1) _ k (by omega), upd_ne _ _ (by omega)]
theorem setsF_at : ∀ (vs : List Value) (o : Nat) (F : Nat → Value) (j : Nat), j < vs.length → setsF F o vs (o + j) = vs.getD j undef
  | [], _, _, _, h => absurd h (Nat.not_lt_zero _)
  | v :: r, o, F, 0, h => by
    rw [setsF, setsF_far r (o + 1) _ _ (by omega), Nat.add_zero, upd_same]
    rfl
  | v :: r, o, F, j + 1, h => by
    rw [List.length_cons] at h
    rw [setsF, show o + (j + 1) = (o + 1) + j by omega, setsF_at r (o + 1) _ j (by omega)]
    rfl
/-- What the reader's cells are. -/
structure PF (F : Nat → Value) (pv : Value) (t n : Nat) (o : List Nat) (bad : Bool) : Prop where
  tab : F 0 = .int .i64 (t : Int)
  num : F 1 = .int .i64 (n : Int)
  row : F 2 = pv
  lst : ∀ j, j < 6 → F (3 + j) = ordF o j
  wrong : F 9 = .bool bad
/-- Block b is a reader of picks, its row of picks pv. -/
def IsPk (w : World) (b : Nat) (pv : Value) (t n : Nat) (ps o : List Nat) (bad : Bool) : Prop :=
  ∃ F, ObjF 10 163 w b F ∧ PF F pv t n o bad ∧ OwnI w (b + 1) pv (toI ps) ∧ o.length = 6 ∧ ps.length ≤ 32767
theorem IsPk.lt {w : World} {b : Nat} {pv : Value} {t n : Nat} {ps o : List Nat} {bad : Bool} (h : IsPk w b pv t n ps o bad) : ∀ k, foot b pv k → b ≤ k ∧ k < w.heap.size := by
  obtain ⟨F, h1, h2, h3, _⟩ := h
  intro k hk
  rcases hk with rfl | hk
  · exact ⟨Nat.le_refl _, h1.lt⟩
  · have := h3.lt k hk
    omega
theorem IsPk.other {w w' : World} {b : Nat} {pv : Value} {t n : Nat} {ps o : List Nat} {bad : Bool} (h : IsPk w b pv t n ps o bad) {S : Nat → Prop} (ht : Touch S w w') (hS : ∀ k, foot b pv k → ¬ S k) : IsPk w' b pv t n ps o bad := by
  have hl := h.lt
  obtain ⟨F, h1, h2, h3, h4⟩ := h
  exact ⟨F, h1.other ht (hS b (Or.inl rfl)), h2, h3.same (fun k hk => ht.block k (hl k (Or.inr hk)).2 (hS k (Or.inr hk))), h4⟩
theorem IsPk.below {w w' : World} {b : Nat} {pv : Value} {t n : Nat} {ps o : List Nat} {bad : Bool} (h : IsPk w b pv t n ps o bad) (hb : Below w.heap.size w w') : IsPk w' b pv t n ps o bad :=
  h.other (Touch.ofBelow (S := fun _ => False) hb) (fun _ _ h => h)
theorem IsPk.drewN {w : World} {b : Nat} {pv : Value} {t n : Nat} {ps o : List Nat} {bad : Bool} (h : IsPk w b pv t n ps o bad) (m : Nat) : IsPk (w.drewN m) b pv t n ps o bad := h
theorem IsPk.cells {w : World} {b : Nat} {pv : Value} {t n : Nat} {ps o : List Nat} {bad : Bool} (h : IsPk w b pv t n ps o bad) :
    w.cell? ⟨b, 0, none⟩ = some (.int .i64 (t : Int)) ∧ w.cell? ⟨b, 1, none⟩ = some (.int .i64 (n : Int)) ∧ w.cell? ⟨b, 2, none⟩ = some pv ∧ w.cell? ⟨b, 9, none⟩ = some (.bool bad) := by
  obtain ⟨F, h1, h2, _⟩ := h
  refine ⟨?_, ?_, ?_, ?_⟩
  · rw [(h1.cell (i := 0) (by omega)).1, h2.tab]
  · rw [(h1.cell (i := 1) (by omega)).1, h2.num]
  · rw [(h1.cell (i := 2) (by omega)).1, h2.row]
  · rw [(h1.cell (i := 9) (by omega)).1, h2.wrong]
theorem IsPk.frozen {w : World} {b : Nat} {pv : Value} {t n : Nat} {ps o : List Nat} {bad : Bool} (h : IsPk w b pv t n ps o bad) (i : Nat) (hi : i < 10) : w.frozen? ⟨b, i, none⟩ = false := by
  obtain ⟨F, h1, _⟩ := h
  exact (h1.cell hi).2
theorem IsPk.slice {w : World} {b : Nat} {pv : Value} {t n : Nat} {ps o : List Nat} {bad : Bool} (h : IsPk w b pv t n ps o bad) : (∃ a c, pv = .slice a ps.length c) ∧ ps.length ≤ 32767 := by
  obtain ⟨F, h1, h2, h3, h4, h5⟩ := h
  obtain ⟨a, c, e⟩ := h3.slice
  rw [toI_length] at e
  exact ⟨⟨a, c, e⟩, h5⟩
theorem IsPk.ints {w : World} {b : Nat} {pv : Value} {t n : Nat} {ps o : List Nat} {bad : Bool} (h : IsPk w b pv t n ps o bad) : IsInts w pv (toI ps) := by
  obtain ⟨F, h1, h2, h3, h4, h5⟩ := h
  exact h3.ints
theorem own_touch {w w' : World} {base b : Nat} {v : Value} {zs : List Int} (h : OwnI w base v zs) (ht : Touch (· = b) w w') (hb : b < base) : OwnI w' base v zs :=
  h.same (fun k hk => ht.block k (h.lt k hk).2 (fun e => by have e2 : k = b := e; have := (h.lt k hk).1; omega))
theorem IsPk.setTab {w : World} {b : Nat} {pv : Value} {t n : Nat} {ps o : List Nat} {bad : Bool} (h : IsPk w b pv t n ps o bad) (x : Nat) : IsPk (w.setCell ⟨b, 0, none⟩ (.int .i64 (x : Int))) b pv x n ps o bad := by
  obtain ⟨F, h1, h2, h3, h4⟩ := h
  refine ⟨_, h1.set 0 _, ⟨upd_same _ _ _, ?_, ?_, fun j hj => ?_, ?_⟩, own_touch h3 (touch_cell (Touch.refl _ _)) (Nat.lt_succ_self _), h4⟩
  · rw [upd_ne _ _ (by omega), h2.num]
  · rw [upd_ne _ _ (by omega), h2.row]
  · rw [upd_ne _ _ (by omega), h2.lst j hj]
  · rw [upd_ne _ _ (by omega), h2.wrong]
theorem IsPk.setNum {w : World} {b : Nat} {pv : Value} {t n : Nat} {ps o : List Nat} {bad : Bool} (h : IsPk w b pv t n ps o bad) (x : Nat) : IsPk (w.setCell ⟨b, 1, none⟩ (.int .i64 (x : Int))) b pv t x ps o bad := by
  obtain ⟨F, h1, h2, h3, h4⟩ := h
  refine ⟨_, h1.set 1 _, ⟨?_, upd_same _ _ _, ?_, fun j hj => ?_, ?_⟩, own_touch h3 (touch_cell (Touch.refl _ _)) (Nat.lt_succ_self _), h4⟩
  · rw [upd_ne _ _ (by omega), h2.tab]
  · rw [upd_ne _ _ (by omega), h2.row]
  · rw [upd_ne _ _ (by omega), h2.lst j hj]
  · rw [upd_ne _ _ (by omega), h2.wrong]
theorem IsPk.setBad {w : World} {b : Nat} {pv : Value} {t n : Nat} {ps o : List Nat} {bad : Bool} (h : IsPk w b pv t n ps o bad) (x : Bool) : IsPk (w.setCell ⟨b, 9, none⟩ (.bool x)) b pv t n ps o x := by
  obtain ⟨F, h1, h2, h3, h4⟩ := h
  refine ⟨_, h1.set 9 _, ⟨?_, ?_, ?_, fun j hj => ?_, upd_same _ _ _⟩, own_touch h3 (touch_cell (Touch.refl _ _)) (Nat.lt_succ_self _), h4⟩
  · rw [upd_ne _ _ (by omega), h2.tab]
  · rw [upd_ne _ _ (by omega), h2.num]
  · rw [upd_ne _ _ (by omega), h2.row]
  · rw [upd_ne _ _ (by omega), h2.lst j hj]
theorem IsPk.setList {w : World} {b : Nat} {pv : Value} {t n : Nat} {ps o : List Nat} {bad : Bool} (h : IsPk w b pv t n ps o bad) (o2 : List Nat) (ho : o2.length = 6) : IsPk (w.setCells b 3 (ordA o2).toList) b pv t n ps o2 bad := by
  obtain ⟨F, h1, h2, h3, h4, h5⟩ := h
  have hl : (ordA o2).toList.length = 6 := by rw [Array.length_toList, ordA_size]
  refine ⟨_, h1.sets _ 3 w F, ⟨?_, ?_, ?_, fun j hj => ?_, ?_⟩, own_touch h3 (touch_setCells (S := (· = b)) (g := b) rfl _ _ _) (Nat.lt_succ_self _), ho, h5⟩
  · rw [setsF_far _ _ _ _ (by omega), h2.tab]
  · rw [setsF_far _ _ _ _ (by omega), h2.num]
  · rw [setsF_far _ _ _ _ (by omega), h2.row]
  · rw [setsF_at _ _ _ _ (by omega)]
    have h6 : (ordA o2)[j]? = some (ordF o2 j) := cellsF_get 6 _ hj
    rw [List.getD_eq_getElem?_getD, Array.getElem?_toList, h6]
    rfl
  · rw [setsF_far _ _ _ _ (by omega), h2.wrong]
def zero10 (i : Nat) : Value := if i = 2 then .slice none 0 0 else if i = 9 then .bool false else .int .i64 0
set_option maxRecDepth 100000 in
theorem built10 : Tryz.prog.built 163 [] = some (cellsF 10 zero10) := by kernel_rfl
set_option maxHeartbeats 1000000 in
theorem pnew_any (w : World) : Calls Tryz.prog 60 #[] w fun e w' => e = .returned (.pointer (some ⟨w.heap.size, 0, none⟩)) ∧ IsPk w' w.heap.size (.slice none 0 0) 0 0 [] [0, 0, 0, 0, 0, 0] false ∧ Below w.heap.size w w' := by
  have hb := built10
  have hobj : Hid (IsPk (w.alloc (.cells (cellsF 10 zero10) 163)) w.heap.size (.slice none 0 0) 0 0 [] [0, 0, 0, 0, 0, 0] false) := Lib.hid ⟨_, heap_alloc_new w _, ⟨rfl, rfl, rfl, fun j hj => by
    rcases (by omega : j = 0 ∨ j = 1 ∨ j = 2 ∨ j = 3 ∨ j = 4 ∨ j = 5) with rfl | rfl | rfl | rfl | rfl | rfl <;> rfl, rfl⟩, OwnI.nil _ _, rfl, Nat.zero_le _⟩
  generalize cellsF 10 zero10 = Z at *
  go_enter Tryz.func60, Tryz.ntmps60
  go_wp2_with (refine wpList_build_is rfl 163 rfl Z hb ?_)
  go_ret
  exact ⟨rfl, hobj.out, (Below.refl _ _).alloc (Nat.le_refl _) _⟩
set_option maxHeartbeats 1000000 in
theorem pdone_any (b : Nat) (pv : Value) (t n : Nat) (ps o : List Nat) (bad r : Bool) (w : World) (h : IsPk w b pv t n ps o bad) (hr : r = true ↔ 1 ≤ n ∧ ps.length = n) :
    Calls Tryz.prog 170 #[.pointer (some ⟨b, 0, none⟩)] w fun e w' => e = .returned (.bool r) ∧ ∃ n, w' = w.drewN n := by
  obtain ⟨c0, c1, c2, c3⟩ := h.cells
  obtain ⟨⟨a, c, rfl⟩, hl⟩ := h.slice
  obtain ⟨k, hk⟩ : ∃ k, ps.length = k := ⟨_, rfl⟩
  rw [hk] at c2 hr hl
  by_cases h0 : 0 < n
  · have h0i : (0 : Int) < (n : Int) := by omega
    have hb : ((k : Int) == (n : Int)) = r := by
      rw [Bool.eq_iff_iff, beq_iff_eq, hr]
      omega
    clear h hr hk hl
    go_enter Tryz.func170, Tryz.ntmps170
    go_wp2_with fail
    go_quiet (fail)
    go_wp2_with fail
    go_ret
    exact ⟨by first | rfl | rw [hb], _, rfl⟩
  · have h0i : ¬ (0 : Int) < (n : Int) := by omega
    obtain rfl : r = false := by rw [Bool.eq_false_iff, Ne, hr]; omega
    clear h hr hk hl
    go_enter Tryz.func170, Tryz.ntmps170
    go_wp2_with fail
    go_quiet (fail)
    go_wp2_with fail
    go_ret
    exact ⟨rfl, _, rfl⟩
set_option maxHeartbeats 400000 in
theorem ptables_any (b : Nat) (pv : Value) (t n : Nat) (ps o : List Nat) (bad : Bool) (w : World) (h : IsPk w b pv t n ps o bad) : Calls Tryz.prog 173 #[.pointer (some ⟨b, 0, none⟩)] w fun e w' => e = .returned (.int .i64 (t : Int)) ∧ w' = w := by
  obtain ⟨c0, _⟩ := h.cells
  clear h
  go_enter Tryz.func173, Tryz.ntmps173
  go_wp2_with fail
  go_ret
  exact ⟨rfl, rfl⟩
set_option maxHeartbeats 1000000 in
theorem ppicks_any (b : Nat) (pv : Value) (t n : Nat) (ps o : List Nat) (bad : Bool) (w : World) (h : IsPk w b pv t n ps o bad) (hp : 1 ≤ ps.length) : Calls Tryz.prog 174 #[.pointer (some ⟨b, 0, none⟩)] w fun e w' => ∃ v, e = .returned v ∧ OwnI w' w.heap.size v (toI ps) ∧ Below w.heap.size w w' := by
  obtain ⟨c0, c1, c2, c3⟩ := h.cells
  have hI := h.ints
  have hl := h.slice.2
  obtain ⟨x, hx⟩ : ∃ x, (toI ps)[0]? = some x := by
    rw [List.getElem?_eq_getElem (by rw [toI_length]; omega)]
    exact ⟨_, rfl⟩
  obtain ⟨a, cap, rfl, hc⟩ := id hI
  obtain ⟨b2, off, rfl, _⟩ := hc 0 x hx
  have HC := Lib.hid (clone_any b2 off _ cap (toI ps) w hI (by rw [toI_length]; omega))
  clear h hI hc hx hl
  go_enter Tryz.func174, Tryz.ntmps174
  go_wp2_with fail
  refine HC.out.mono ?_
  rintro e w' ⟨v, rfl, hO, hB⟩
  have HO := Lib.hid hO
  have HB := Lib.hid hB
  clear hO hB
  go_wp2_with fail
  go_ret
  exact ⟨v, rfl, HO.out, HB.out⟩
/-! ### A step -/
/-- What a step leaves. -/
def StepK (w w' : World) (b rb : Nat) (pv v : Value) (l : List UInt8) (dr sp p : Nat) (o : PO) (bad : Bool) (e : Ending) : Prop :=
  ∃ pv', e = .returned (.int .i64 o.err) ∧ IsPk w' b pv' o.t o.n o.ps o.o bad ∧ IsReader w' rb v l dr sp (p + o.used) ∧ Touch (fun k => foot b pv k ∨ k = rb) w w' ∧ (∀ k, pv'.ownBlock = some k → pv.ownBlock = some k ∨ w.heap.size ≤ k)
theorem pk_l {w w' : World} {b rb : Nat} {pv : Value} (h : Touch (· = b) w w') : Touch (fun k => foot b pv k ∨ k = rb) w w' := h.mono (fun _ hk => Or.inl (Or.inl hk))
theorem pk_r {w w' : World} {b rb : Nat} {pv : Value} (h : Touch (· = rb) w w') : Touch (fun k => foot b pv k ∨ k = rb) w w' := h.mono (fun _ hk => Or.inr hk)
theorem pk_d {w : World} {b rb : Nat} {pv : Value} (m : Nat) : Touch (fun k => foot b pv k ∨ k = rb) w (w.drewN m) := touch_drewN _ _ m
theorem pk_tr {w w1 w2 : World} {b rb : Nat} {pv : Value} (h : Touch (fun k => foot b pv k ∨ k = rb) w w1) (k : Touch (fun k => foot b pv k ∨ k = rb) w1 w2) : Touch (fun k => foot b pv k ∨ k = rb) w w2 := h.trans k (fun _ hj => Or.inl hj)
theorem num18 {q : List Bool} (h : 18 ≤ q.length) : num (q.take 18) = num (q.take 3) * 32768 + num ((q.drop 3).take 15) ∧ num ((q.drop 3).take 15) < 32768 ∧ num (q.take 3) < 8 := by
  have e : q.take 18 = q.take 3 ++ (q.drop 3).take 15 := by
    rw [show 18 = 3 + 15 by rfl, List.take_add]
  have hl : ((q.drop 3).take 15).length = 15 := by rw [List.length_take, List.length_drop]; omega
  have hl3 : (q.take 3).length = 3 := by rw [List.length_take]; omega
  have h1 := num_lt ((q.drop 3).take 15)
  have h2 := num_lt (q.take 3)
  rw [hl] at h1
  rw [hl3] at h2
  refine ⟨?_, h1, h2⟩
  rw [e, num_append, hl]
theorem and15 (X : Nat) (hX : X < 4294967296) : bits BinOp.and IntKind.u32 (X : Int) 32767 = ((X % 32768 : Nat) : Int) := by
  have := u32_and_nat X 32767 hX (by omega)
  rw [show (32767 : Nat) = 2 ^ 15 - 1 by rfl, Nat.and_two_pow_sub_one_eq_mod] at this
  exact this
set_option maxRecDepth 100000 in
set_option maxHeartbeats 2000000 in
theorem pfirst_any (b rb : Nat) (pv : Value) (t : Nat) (ps o : List Nat) (v : Value) (l : List UInt8) (dr sp p : Nat) (w : World) (hD : IsPk w b pv t 0 ps o false) (hR : IsReader w rb v l dr sp p) (hs : dr + l.length ≤ 1099511627776)
    (hne : ∀ k, foot rb v k → ¬ foot b pv k) :
    Calls Tryz.prog 172 #[.pointer (some ⟨b, 0, none⟩), .pointer (some ⟨rb, 0, none⟩)] w fun e w' =>
      StepK w w' b rb pv v l dr sp p (pstep ((bitsOf l).drop (p - 8 * dr)) t 0 ps o false) false e := by
  have HD := Lib.hid hD
  have HNE := Lib.hid hne
  have h1 := hR.2.2.2.1
  have h2 := hR.2.2.2.2
  have hnb : Hid (∀ k, foot b pv k → ¬ k = rb) := Lib.hid (fun k hk e => hne rb (Or.inl rfl) (e ▸ hk))
  have hql : ((bitsOf l).drop (p - 8 * dr)).length = 8 * (dr + l.length) - p := by rw [List.length_drop, bitsOf_length]; omega
  by_cases h18 : ((bitsOf l).drop (p - 8 * dr)).length < 18
  · have HG := Lib.hid (get_short rb v l dr sp p 18 w hR hs (by omega) (by omega))
    have HO := Lib.hid (pstep_few ((bitsOf l).drop (p - 8 * dr)) t ps o h18)
    have HR := Lib.hid hR
    clear hD hR hne h1 h2 hql h18
    go_enter Tryz.func172, Tryz.ntmps172
    go_wp2_with fail
    refine HG.out.mono ?_
    rintro e w1 ⟨rfl, m, hw1⟩
    have K : Hid (StepK w w1 b rb pv v l dr sp p (pstep ((bitsOf l).drop (p - 8 * dr)) t 0 ps o false) false (.returned (.int .i64 3))) := Lib.hid (by
      rw [HO.out, hw1]
      exact ⟨pv, rfl, HD.out.drewN m, HR.out.drewN m, pk_d m, fun k hk => Or.inl hk⟩)
    clear hw1
    go_wp2_with fail
    go_ret
    exact K.out
  · have HG := Lib.hid (get_any rb v l dr sp p 18 w hR hs (by omega) (by omega))
    obtain ⟨n1, n2, n3⟩ := num18 (q := (bitsOf l).drop (p - 8 * dr)) (by omega)
    have HNT := fun h => pstep_noT ((bitsOf l).drop (p - 8 * dr)) t ps o h18 h
    have HNN := fun h h3 => pstep_noN ((bitsOf l).drop (p - 8 * dr)) t ps o h18 h h3
    have HOK := fun h h3 => pstep_first ((bitsOf l).drop (p - 8 * dr)) t ps o h18 h h3
    obtain ⟨T, hT⟩ : ∃ T, num (((bitsOf l).drop (p - 8 * dr)).take 3) = T := ⟨_, rfl⟩
    obtain ⟨C, hC⟩ : ∃ C, num ((((bitsOf l).drop (p - 8 * dr)).drop 3).take 15) = C := ⟨_, rfl⟩
    obtain ⟨X, hX⟩ : ∃ X, num (((bitsOf l).drop (p - 8 * dr)).take 18) = X := ⟨_, rfl⟩
    rw [hT, hC, hX] at n1
    rw [hC] at n2
    rw [hT] at n3
    rw [hT] at HNT HNN HOK
    rw [hC] at HNN HOK
    rw [hX] at HG
    clear hD hR hne h1 h2 hql h18 hX hT hC
    have HNT := Lib.hid HNT
    have HNN := Lib.hid HNN
    have HOK := Lib.hid HOK
    have hand : bits BinOp.and IntKind.u32 (X : Int) 32767 = (C : Int) := by
      rw [and15 X (by omega)]
      omega
    have hshr : (X : Int) / 2 ^ 15 = (T : Int) := by omega
    have hshr2 : (X : Int) / 32768 = (T : Int) := by omega
    have hX32 : X < 4294967296 := by omega
    clear n1
    go_enter Tryz.func172, Tryz.ntmps172
    go_wp2_with fail
    refine HG.out.mono ?_
    rintro e w1 ⟨rfl, hr1, ht1⟩
    have HR1 := Lib.hid hr1
    have HT1 := Lib.hid ht1
    have HD1 := Lib.hid (HD.out.other ht1 (fun k hk => hnb.out k hk))
    clear hr1 ht1 HG
    have hsz : (0 : Int) ≤ (X : Int) ∧ (X : Int) < 4294967296 := by omega
    by_cases hT : 2 ≤ T ∧ T ≤ 6
    · have HPN := Lib.hid (fun W => pnum_any (T : Int) true W ⟨fun _ => by omega, fun _ => rfl⟩)
      obtain ⟨c0, c1, c2, c3⟩ := HD1.out.cells
      have f0 := HD1.out.frozen 0 (by omega)
      have HD2 := Lib.hid (HD1.out.setTab T)
      have HT2 : Hid (Touch (· = b) w1 (w1.setCell ⟨b, 0, none⟩ (.int .i64 (T : Int)))) := Lib.hid (touch_cell (Touch.refl _ _))
      by_cases hC : C = 0
      · subst hC
        have HO := Lib.hid (HNN.out (by omega) rfl)
        go_wp2_with fail
        refine (HPN.out _).mono ?_
        rintro e w2 ⟨rfl, rfl⟩
        go_wp2_with fail
        go_ret
        rw [HO.out]
        exact ⟨pv, rfl, HD2.out, HR1.out.other HT2.out (fun k hk e => HNE.out k hk (Or.inl e)), pk_tr (pk_r HT1.out) (pk_l HT2.out), fun k hk => Or.inl hk⟩
      · have hC0 : ((C : Int) == 0) = false := by rw [beq_eq_false_iff_ne]; omega
        have HO := Lib.hid (HOK.out (by omega) hC)
        go_wp2_with fail
        refine (HPN.out _).mono ?_
        rintro e w2 ⟨rfl, rfl⟩
        go_wp2_with fail
        generalize hw5 : w2.setCell ⟨b, 0, none⟩ (.int .i64 (T : Int)) = w5 at *
        clear hw5
        clear c0 c1 c2 c3 f0
        refine (inOrder_any w5).mono ?_
        rintro e w4 ⟨rfl, hb4⟩
        have HD4 := Lib.hid (HD2.out.below hb4)
        have HT4 : Hid (Touch (· = b) w2 w4) := Lib.hid (HT2.out.trans (Touch.ofBelow (S := fun _ => False) hb4) (fun _ h => absurd h id))
        have f1 := HD4.out.frozen 1 (by omega)
        obtain ⟨d0, d1, d2, d3⟩ := HD4.out.cells
        have HD5 := Lib.hid (HD4.out.setNum C)
        have HT5 : Hid (Touch (· = b) w2 (w4.setCell ⟨b, 1, none⟩ (.int .i64 (C : Int)))) := Lib.hid (touch_cell HT4.out)
        have hth : (w4.setCell ⟨b, 1, none⟩ (.int .i64 (C : Int))).there b 3 (ordA O6).size := by
          rw [ordA_size]
          obtain ⟨F, k1, _⟩ := HD5.out
          intro j hj
          have k2 := k1.cell (i := 3 + j) (by omega)
          exact ⟨by rw [k2.1]; rfl, k2.2⟩
        have HD6 := Lib.hid (HD5.out.setList O6 rfl)
        have HT6 : Hid (Touch (· = b) w2 ((w4.setCell ⟨b, 1, none⟩ (.int .i64 (C : Int))).setCells b 3 (ordA O6).toList)) := Lib.hid (HT5.out.trans (touch_setCells (S := (· = b)) (g := b) rfl _ _ _) (fun _ h => Or.inl h))
        have hio := info_list
        have hone := ordA_one O6
        clear hb4
        generalize ordA O6 = A at *
        go_wp2_with (refine wpList_store_mid rfl 161 _ _ rfl b 3 A rfl rfl hth hio hone ?_)
        go_ret
        rw [HO.out]
        exact ⟨pv, rfl, HD6.out, HR1.out.other HT6.out (fun k hk e => HNE.out k hk (Or.inl e)), pk_tr (pk_r HT1.out) (pk_l HT6.out), fun k hk => Or.inl hk⟩
    · have HPN := Lib.hid (fun W => pnum_any (T : Int) false W ⟨fun e => (by cases e), fun e => absurd e (by omega)⟩)
      have HO := Lib.hid (HNT.out (by omega))
      clear hT
      go_wp2_with fail
      refine (HPN.out _).mono ?_
      rintro e w2 ⟨rfl, rfl⟩
      go_wp2_with fail
      go_ret
      rw [HO.out]
      exact ⟨pv, rfl, HD1.out, HR1.out, pk_r HT1.out, fun k hk => Or.inl hk⟩
end Go.Proofs.YtojphcoghbiepaaGreatDoor
namespace Go.Proofs.YtojphcoghbiepaaGreatDoor
open Go.RowKit PkM BitM
set_option linter.unusedVariables false
theorem lead_next : ∀ (q : List Bool) (i : Nat), i ≤ lead q → i < q.length → q.getD i false = true → i + 1 ≤ lead q
  | [], i, _, h, _ => absurd h (Nat.not_lt_zero _)
  | false :: q, i, h, _, e => by
    obtain rfl : i = 0 := Nat.le_zero.1 h
    cases e
  | true :: q, 0, h, _, e => by
    rw [lead]
    omega
  | true :: q, i + 1, h, hl, e => by
    rw [lead] at h ⊢
    rw [List.length_cons] at hl
    have := lead_next q i (by omega) (by omega) e
    omega
theorem lead_stop : ∀ (q : List Bool) (i : Nat), i ≤ lead q → i < q.length → q.getD i false = false → lead q = i
  | [], i, _, h, _ => absurd h (Nat.not_lt_zero _)
  | false :: q, i, h, _, e => by
    obtain rfl : i = 0 := Nat.le_zero.1 h
    rfl
  | true :: q, 0, h, _, e => by cases e
  | true :: q, i + 1, h, hl, e => by
    rw [lead] at h ⊢
    rw [List.length_cons] at hl
    rw [lead_stop q i (by omega) (by omega) e]
theorem num_at (q : List Bool) (i : Nat) (h : i < q.length) : num ((q.drop i).take 1) = bn (q.getD i false) := by
  rw [List.drop_eq_getElem_cons h, List.getD_eq_getElem?_getD, List.getElem?_eq_getElem h]
  show num [q[i]] = bn q[i]
  cases q[i] <;> rfl
set_option maxHeartbeats 400000 in
/-- 'append' of one number, where an operation of a region that draws its order stands. -/
theorem step_push_int {ops : Array Oper} {o : Oper} {a : Act} {K : Act → World → Prop} {Q : Exit → Act → World → Prop} {E : Prop} (W : World) (hg : o.guard = none) (s x : Operand)
    (ho : o.op = .call { callee := .builtin .append, args := #[s, x], argTypes := #[28, 28] })
    (base : Nat) (v : Value) (zs : List Int) (c : Int) (hown : OwnI W base v zs) (hs : a.eval s = v) (hx : a.eval x = .slice (some ⟨W.heap.size, 0, none⟩) 1 1)
    (hlen : zs.length + 1 ≤ 17592186044416) (hb : base ≤ W.heap.size)
    (h : ∀ v' w', OwnI w' base v' (zs ++ [c]) → Below base W w' → (∀ k, k < W.heap.size → v.ownBlock ≠ some k → w'.heap[k]? = W.heap[k]?) → (∀ k, v'.ownBlock = some k → v.ownBlock = some k ∨ W.heap.size ≤ k) → K (a.put o.dst v') w') :
    if Region.wanted o (yielded ops a.tmps) = true then Oper.wp Tryz.prog o a (W.alloc (.cells #[.int .i64 c] 3)) K Q else E := by
  obtain ⟨i0, hi, hz0, hz1, hz2⟩ := info_parts info_int
  refine step_append_own' hg s x 28 ho base 3 i0 (.int .i64 0) 1 8 Tryz.underlying28 hi hz0 hz1 hz2 rfl (by decide) v zs.length (zs.map iv64) hs (World.ownsRow.alloc hown _) ⟨W.heap.size, 0, none⟩ 1 1 [.int .i64 c] hx rfl ?_ ?_ ?_ ?_ ?_ ?_
  · exact news_new _ _ _ _ rfl
  · intro u hu; simp at hu; subst hu; rfl
  · unfold maxLen; omega
  · omega
  · simp; omega
  · intro v' w' hown' hg hv
    refine h v' w' ?_ (Below.grown ((Below.refl base W).alloc hb _) hg (by simp; omega) (fun j hj => (World.ownsRow.lt hown j hj).1)) (fun k hk hne => (hg.block k (by simp; omega) (fun e => hne e.symm)).trans (alloc_old hk)) (fun k hk => (hv k hk).imp id (fun h => by simp at h; omega))
    unfold OwnI
    rw [List.length_append, List.map_append]
    exact hown'
theorem pk_pushed {w : World} {b : Nat} {pv v2 : Value} {t n i X : Nat} {ps o : List Nat} {F F2 : Nat → Value} (h1 : ObjF 10 163 w b F2) (h2 : PF F pv t n o false) (h3 : ∀ j, j < 6 → F2 (3 + j) = ordF (tch o i) j) (h4 : ∀ k, (k < 3 ∨ 3 + 6 ≤ k) → F2 k = F k)
    (h5 : OwnI w (b + 1) v2 (toI ps ++ [(X : Int)])) (ho : o.length = 6) (hi : i < 6) (hl : ps.length + 1 ≤ 32767) : IsPk (w.setCell ⟨b, 2, none⟩ v2) b v2 t n (ps ++ [X]) (tch o i) false := by
  refine ⟨_, h1.set 2 _, ⟨?_, ?_, upd_same _ _ _, fun j hj => ?_, ?_⟩, ?_, ?_, ?_⟩
  · rw [upd_ne _ _ (by omega), h4 0 (by omega), h2.tab]
  · rw [upd_ne _ _ (by omega), h4 1 (by omega), h2.num]
  · rw [upd_ne _ _ (by omega), h3 j hj]
  · rw [upd_ne _ _ (by omega), h4 9 (by omega), h2.wrong]
  · rw [toI_app]
    exact own_touch h5 (touch_cell (Touch.refl _ _)) (Nat.lt_succ_self _)
  · rw [tch_length o i (by omega), ho]
  · rw [List.length_append]
    exact hl
theorem pk_push_touch {w1 wA w2 : World} {b : Nat} {pv x : Value} (h1 : Touch (· = b) (w1.drewN 1) wA) (h2 : Below (b + 1) wA w2) (h3 : ∀ k, k < wA.heap.size → pv.ownBlock ≠ some k → w2.heap[k]? = wA.heap[k]?) : Touch (foot b pv) (w1.drewN 1) (w2.setCell ⟨b, 2, none⟩ x) := by
  have h4 : Touch (foot b pv) wA w2 := ⟨h2.os, h2.tape, h2.output, h2.size, fun k hk hn => h3 k hk (fun e => hn (Or.inr e))⟩
  exact ((h1.mono (fun k hk => Or.inl hk)).trans h4 (fun k hk => Or.inl hk)).setCell (p := ⟨b, 2, none⟩) (Or.inl (Or.inl rfl)) _
set_option maxRecDepth 100000 in
set_option maxHeartbeats 4000000 in
theorem pnext_any (b rb : Nat) (pv : Value) (t n : Nat) (ps o : List Nat) (v : Value) (l : List UInt8) (dr sp p : Nat) (w : World) (hD : IsPk w b pv t n ps o false) (hR : IsReader w rb v l dr sp p) (hs : dr + l.length ≤ 1099511627776)
    (hne : ∀ k, foot rb v k → ¬ foot b pv k) (hn : 1 ≤ n) (hn2 : n ≤ 32767) (hl : ps.length < n) (ht6 : t ≤ 6) :
    Calls Tryz.prog 171 #[.pointer (some ⟨b, 0, none⟩), .pointer (some ⟨rb, 0, none⟩)] w fun e w' =>
      StepK w w' b rb pv v l dr sp p (pstep ((bitsOf l).drop (p - 8 * dr)) t n ps o false) false e := by
  have HD := Lib.hid hD
  have HR := Lib.hid hR
  have HNE := Lib.hid hne
  have h1 := hR.2.2.2.1
  have h2 := hR.2.2.2.2
  have hnb : Hid (∀ k, foot b pv k → ¬ k = rb) := Lib.hid (fun k hk e => hne rb (Or.inl rfl) (e ▸ hk))
  have hql : ((bitsOf l).drop (p - 8 * dr)).length = 8 * (dr + l.length) - p := by rw [List.length_drop, bitsOf_length]; omega
  have HDR : Hid (∀ i, (bitsOf l).drop (p + i - 8 * dr) = ((bitsOf l).drop (p - 8 * dr)).drop i) := Lib.hid (fun i => by rw [List.drop_drop]; congr 1; omega)
  obtain ⟨q, hq⟩ : ∃ q, (bitsOf l).drop (p - 8 * dr) = q := ⟨_, rfl⟩
  rw [hq] at hql HDR ⊢
  have hc0 := hD.cells.1
  have hll := lead_le q
  clear hD hR hne hq
  go_enter Tryz.func171, Tryz.ntmps171
  go_wp2_with fail
  refine (rat_any rb v l dr sp p w HR.out).mono ?_
  rintro e w' ⟨rfl, rfl⟩
  go_wp2_with fail
  go_loopw [15] (fun vi wr => ∃ i : Nat, vi = .int .i64 (i : Int) ∧ i ≤ t ∧ i ≤ lead q ∧ IsReader wr rb v l dr sp (p + i) ∧ Touch (· = rb) w wr) (fun vi _ => t - (intOf vi).toNat)
  case atStart => exact ⟨0, rfl, Nat.zero_le _, Nat.zero_le _, HR.out, Touch.refl _ _⟩
  case round =>
    clear hc0
    obtain ⟨i, rfl, hit, hil, hRi, hTi⟩ := hrel
    have HRi := Lib.hid hRi
    have HTi := Lib.hid hTi
    have HDi := Lib.hid (HD.out.other hTi (fun k hk => hnb.out k hk))
    clear hRi hTi
    by_cases hlt : i < t
    · have hlti : (i : Int) < (t : Int) := by omega
      by_cases hend : i < q.length
      · have HG := get_any rb v l dr sp (p + i) 1 wr HRi.out hs (by omega) (by omega)
        rw [HDR.out i, num_at q i hend] at HG
        have HGH := Lib.hid HG
        clear HG
        cases hb : q.getD i false with
        | true =>
          rw [hb] at HGH
          have hil2 := lead_next q i hil hend hb
          clear hb
          have hb1 : ((bn true : Nat) : Int) = 1 := rfl
          rw [hb1] at HGH
          clear hb1
          go_wp2_with fail
          refine HGH.out.mono ?_
          rintro e w1 ⟨rfl, hr1, ht1⟩
          have HR1 := Lib.hid hr1
          have HT1 : Hid (Touch (· = rb) w w1) := Lib.hid (HTi.out.trans ht1 (fun _ h => Or.inl h))
          clear hr1 ht1
          go_wp2_with fail
          go_roundw
          case rel => exact ⟨i + 1, by go_num, by omega, hil2, HR1.out, HT1.out⟩
          case measure => simp [intOf]; omega
        | false =>
          rw [hb] at HGH
          have hli := lead_stop q i hil hend hb
          have HO := Lib.hid (pstep_one q (t := t) (n := n) ps o (by omega) (by omega) (by omega))
          rw [hli] at HO
          clear hb hil hll hend hql
          have hb1 : ((bn false : Nat) : Int) = 0 := rfl
          rw [hb1] at HGH
          clear hb1 hli
          go_wp2_with fail
          refine HGH.out.mono ?_
          rintro e w1 ⟨rfl, hr1, ht1⟩
          have HR1 := Lib.hid hr1
          have HT1 : Hid (Touch (· = rb) w w1) := Lib.hid (HTi.out.trans ht1 (fun _ h => Or.inl h))
          have hD1 := HDi.out.other ht1 (fun k hk => hnb.out k hk)
          have HF1 := Lib.hid hD1.lt
          obtain ⟨⟨pa, pc, rfl⟩, _⟩ := hD1.slice
          obtain ⟨F, hO1, hP1, hW1, ho6, hp3⟩ := hD1
          have HO1 := Lib.hid hO1
          have HP1 := Lib.hid hP1
          have HW1 := Lib.hid hW1
          have c2 : w1.cell? ⟨b, 2, none⟩ = some (.slice pa ps.length pc) := by rw [(hO1.cell (i := 2) (by omega)).1, hP1.row]
          have HL1 : Hid (LstAt 10 163 (w1.drewN 1) b 3 F o) := Lib.hid ⟨hO1.drewN 1, ho6, by omega, hP1.lst⟩
          obtain ⟨X, hX⟩ : ∃ X : Nat, o.getD i 0 = X := ⟨_, rfl⟩
          have hXX : ordF o i = .int .i64 (X : Int) := by unfold ordF; rw [hX]
          have HTK := ptake_any 10 163 b 3 i F o _ HL1.out (by omega)
          rw [hXX] at HTK
          rw [hX] at HO
          have HTKH := Lib.hid HTK
          have HLE : Hid (ps.length + 1 ≤ 32767) := Lib.hid (by omega)
          have hlen := toI_length ps
          have HLEN := Lib.hid hlen
          have hbw : b < w1.heap.size := hO1.lt
          clear hr1 ht1 hO1 hP1 hW1 HTK hX hXX hlen HGH hp3
          go_wp2_with fail
          go_region_law (first
              | (refine step_push_int wA (by rfl) _ _ (by rfl) (b + 1) _ (toI ps) (X : Int) HWA.out (by rfl) (by rfl) (by have := HLE.out; have := HLEN.out; omega) hbA ?_; intro v2 w2 hO2 hB2 hsame hfr; obtain ⟨a2, c2, e2⟩ := hO2.slice; obtain ⟨L2, hL2e⟩ : ∃ L2, (toI ps ++ [(X : Int)]).length = L2 := ⟨_, rfl⟩; rw [hL2e] at e2; subst e2; clear hL2e; have hbO : w2.heap[b]? = wA.heap[b]? := (hsame b hbA (fun e => by have h9 := (HWA.out.lt b e).1; omega)); have HO2 := Lib.hid hO2; have HOB : Hid (ObjF 10 163 w2 b F2) := Lib.hid (hbO.trans HL2.out.1); have k2 : w2.cell? ⟨b, 2, none⟩ = some (.slice pa ps.length pc) := (by rw [(HOB.out.cell (i := 2) (by omega)).1, HF2.out 2 (by omega), HP1.out.row]); have k3 : w2.frozen? ⟨b, 2, none⟩ = false := (HOB.out.cell (i := 2) (by omega)).2; have HS2 := Lib.hid hsame; have HB2 := Lib.hid hB2; have HFR := Lib.hid hfr; clear hO2 hB2 hsame hfr hbO)
              | (go_simp; go_at_call 215; refine HTKH.out.mono ?_; rintro e wA ⟨rfl, ⟨F2, hL2, hF2⟩, hT2⟩; have kA : wA.cell? ⟨b, 2, none⟩ = some (.slice pa ps.length pc) := (by rw [(hL2.1.cell (i := 2) (by omega)).1, hF2 2 (by omega), HP1.out.row]); have kA2 : (wA.alloc (.cells #[.int .i64 (X : Int)] 3)).cell? ⟨b, 2, none⟩ = some (.slice pa ps.length pc) := ((World.cell?_alloc_some _ _ _ (by rw [kA]; rfl)).trans kA); have HL2 := Lib.hid hL2; have HF2 := Lib.hid hF2; have HT2 := Lib.hid hT2; have HWA : Hid (OwnI wA (b + 1) (.slice pa ps.length pc) (toI ps)) := Lib.hid (own_touch (HW1.out.drewN 1) hT2 (by omega)); have hbA : b + 1 ≤ wA.heap.size := hL2.1.lt; clear hL2 hF2 hT2))
          all_goals
            go_wp2_with fail
            go_ret
            rw [HO.out]
            exact ⟨_, rfl, pk_pushed HOB.out HP1.out HL2.out.2.2.2 HF2.out HO2.out ho6 (by omega) HLE.out, (HR1.out.drewN 1).other (pk_push_touch HT2.out HB2.out HS2.out) (fun k hk e => HNE.out k hk e), pk_tr (pk_r HT1.out) (pk_tr (pk_d 1) (pk_push_touch HT2.out HB2.out HS2.out |>.mono (fun k hk => Or.inl hk))), fun k hk => by
              rcases HFR.out k hk with h | h
              · exact Or.inl h
              · exact Or.inr (by have h3 := HT1.out.size; have h4 : w1.heap.size ≤ wA.heap.size := HT2.out.size; omega)⟩
      · have hie : i = q.length := by omega
        have HG := Lib.hid (get_short rb v l dr sp (p + i) 1 wr HRi.out hs (by omega) (by omega))
        have HO := Lib.hid (pstep_short q (t := t) (n := n) ps o (by omega) (by omega) (by omega))
        clear hie hend hql hll hil
        go_wp2_with fail
        refine HG.out.mono ?_
        rintro e w1 ⟨rfl, m, hw1⟩
        have HR1 : Hid (IsReader w1 rb v l dr sp (p + i)) := Lib.hid (by rw [hw1]; exact HRi.out.drewN m)
        have HT1 : Hid (Touch (· = rb) w w1) := Lib.hid (by rw [hw1]; exact HTi.out.trans (touch_drewN (· = rb) _ m) (fun _ h => Or.inl h))
        have HD1 : Hid (IsPk w1 b pv t n ps o false) := Lib.hid (by rw [hw1]; exact HDi.out.drewN m)
        clear hw1
        go_wp2_with fail
        refine (seek_yes rb v l dr sp (p + i) p w1 HR1.out hs h1 h2).mono ?_
        rintro e w2 ⟨rfl, hr2, ht2⟩
        have HR2 := Lib.hid hr2
        have HD2 := Lib.hid (HD1.out.other ht2 (fun k hk => hnb.out k hk))
        have HT2 : Hid (Touch (· = rb) w w2) := Lib.hid (HT1.out.trans ht2 (fun _ h => Or.inl h))
        clear hr2 ht2
        go_wp2_with fail
        go_ret
        rw [HO.out]
        exact ⟨pv, rfl, HD2.out, HR2.out, pk_r HT2.out, fun k hk => Or.inl hk⟩
    · have hlti : ¬ (i : Int) < (t : Int) := by omega
      obtain rfl : i = t := by omega
      have HO := Lib.hid (pstep_wrong q (t := i) (n := n) ps o (by omega) hil)
      go_wp2_with fail
      go_ret
      rw [HO.out]
      exact ⟨pv, rfl, HDi.out, HRi.out, pk_r HTi.out, fun k hk => Or.inl hk⟩
end Go.Proofs.YtojphcoghbiepaaGreatDoor
namespace Go.Proofs.YtojphcoghbiepaaGreatDoor
open Go.RowKit PkM BitM
set_option linter.unusedVariables false
theorem pstep_err (q : List Bool) (t n : Nat) (ps o : List Nat) : ((pstep q t n ps o false).err == 25) = (pstep q t n ps o false).bad := by
  unfold pstep
  rw [if_neg (by simp)]
  split
  · split
    · rfl
    · split
      · rfl
      · split <;> rfl
  · split
    · rfl
    · split <;> rfl
set_option maxRecDepth 100000 in
set_option maxHeartbeats 2000000 in
theorem pstepc_any (b rb : Nat) (pv : Value) (t n : Nat) (ps o : List Nat) (bad : Bool) (v : Value) (l : List UInt8) (dr sp p : Nat) (w : World) (hD : IsPk w b pv t n ps o bad) (hR : IsReader w rb v l dr sp p) (hs : dr + l.length ≤ 1099511627776)
    (hne : ∀ k, foot rb v k → ¬ foot b pv k) (hl : n = 0 ∨ (ps.length < n ∧ n ≤ 32767 ∧ t ≤ 6)) :
    Calls Tryz.prog 110 #[.pointer (some ⟨b, 0, none⟩), .pointer (some ⟨rb, 0, none⟩)] w fun e w' => StepK w w' b rb pv v l dr sp p (pstep ((bitsOf l).drop (p - 8 * dr)) t n ps o bad) (pstep ((bitsOf l).drop (p - 8 * dr)) t n ps o bad).bad e := by
  have HD := Lib.hid hD
  have HR := Lib.hid hR
  have HNE := Lib.hid hne
  have HDN := Lib.hid (pdone_any b pv t n ps o bad false w hD ⟨fun e => (by cases e), fun e => by omega⟩)
  clear hD hR hne
  go_enter Tryz.func110, Tryz.ntmps110
  go_wp2_with fail
  refine HDN.out.mono ?_
  rintro e w2 ⟨rfl, m, hw2⟩
  have HT2 : Hid (Touch (fun k => foot b pv k ∨ k = rb) w w2) := Lib.hid (by rw [hw2]; exact pk_d m)
  have HD2 : Hid (IsPk w2 b pv t n ps o bad) := Lib.hid (by rw [hw2]; exact HD.out.drewN m)
  have HR2 : Hid (IsReader w2 rb v l dr sp p) := Lib.hid (by rw [hw2]; exact HR.out.drewN m)
  clear hw2 HDN HD HR
  obtain ⟨c0, c1, c2, c3⟩ := HD2.out.cells
  cases bad with
  | true =>
    go_wp2_with fail
    go_ret
    rw [pstep_bad]
    exact ⟨pv, rfl, HD2.out, HR2.out, HT2.out, fun k hk => Or.inl hk⟩
  | false =>
    have HER := Lib.hid (pstep_err ((bitsOf l).drop (p - 8 * dr)) t n ps o)
    by_cases h0 : n = 0
    · subst h0
      have HF := Lib.hid (pfirst_any b rb pv t ps o v l dr sp p w2 HD2.out HR2.out hs HNE.out)
      generalize ho : pstep ((bitsOf l).drop (p - 8 * dr)) t 0 ps o false = O at *
      have HO := Lib.hid ho
      obtain ⟨oe, ou, ot, on, ops, oo, ob⟩ := O
      clear ho hl
      go_wp2_with fail
      refine HF.out.mono ?_
      rintro e w5 ⟨pv5, rfl, k1, k2, k3, k4⟩
      have K1 := Lib.hid k1
      have K2 := Lib.hid k2
      have K3 := Lib.hid k3
      have K4 := Lib.hid k4
      have f9 := k1.frozen 9 (by omega)
      obtain ⟨d0, d1, d2, d3⟩ := k1.cells
      have hee : (oe == 25) = ob := HER.out
      clear k1 k2 k3 k4 c0 c1 c2 c3
      go_wp2_with fail
      go_ret
      rw [HO.out]
      have hTS : Touch (· = b) w5 (w5.setCell ⟨b, 9, none⟩ (.bool ob)) := touch_cell (Touch.refl _ _)
      refine ⟨pv5, rfl, K1.out.setBad ob, K2.out.other hTS (fun k hk e => HNE.out k hk (Or.inl e)), pk_tr HT2.out (pk_tr K3.out (pk_l hTS)), fun k hk => ?_⟩
      rcases K4.out k hk with h | h
      · exact Or.inl h
      · exact Or.inr (Nat.le_trans HT2.out.size h)
    · have h0b : ((n : Int) == 0) = false := by rw [beq_eq_false_iff_ne]; omega
      have HF := Lib.hid (pnext_any b rb pv t n ps o v l dr sp p w2 HD2.out HR2.out hs HNE.out (by omega) (by omega) (by omega) (by omega))
      generalize ho : pstep ((bitsOf l).drop (p - 8 * dr)) t n ps o false = O at *
      have HO := Lib.hid ho
      obtain ⟨oe, ou, ot, on, ops, oo, ob⟩ := O
      clear ho hl
      go_wp2_with fail
      refine HF.out.mono ?_
      rintro e w5 ⟨pv5, rfl, k1, k2, k3, k4⟩
      have K1 := Lib.hid k1
      have K2 := Lib.hid k2
      have K3 := Lib.hid k3
      have K4 := Lib.hid k4
      have f9 := k1.frozen 9 (by omega)
      obtain ⟨d0, d1, d2, d3⟩ := k1.cells
      have hee : (oe == 25) = ob := HER.out
      clear k1 k2 k3 k4 c0 c1 c2 c3
      go_wp2_with fail
      go_ret
      rw [HO.out]
      have hTS : Touch (· = b) w5 (w5.setCell ⟨b, 9, none⟩ (.bool ob)) := touch_cell (Touch.refl _ _)
      refine ⟨pv5, rfl, K1.out.setBad ob, K2.out.other hTS (fun k hk e => HNE.out k hk (Or.inl e)), pk_tr HT2.out (pk_tr K3.out (pk_l hTS)), fun k hk => ?_⟩
      rcases K4.out k hk with h | h
      · exact Or.inl h
      · exact Or.inr (Nat.le_trans HT2.out.size h)
end Go.Proofs.YtojphcoghbiepaaGreatDoor
namespace Go.Proofs.YtojphcoghbiepaaGreatDoor
open Go.RowKit DelM BitM
set_option linter.unusedVariables false
theorem dlen_any (n : Int) (r : Bool) (w : World) (hr : r = true ↔ 1 ≤ n ∧ n ≤ 20) : Calls Tryz.prog 216 #[.int .i64 n] w fun e w' => e = .returned (.bool r) ∧ w' = w := by
  by_cases h1 : 1 ≤ n
  · by_cases h2 : n ≤ 20
    · obtain rfl : r = true := hr.2 ⟨h1, h2⟩
      clear hr
      go_enter Tryz.func216, Tryz.ntmps216
      go_wp2_with fail
      go_ret
      exact ⟨rfl, rfl⟩
    · obtain rfl : r = false := by rw [Bool.eq_false_iff]; intro h; exact h2 (hr.1 h).2
      clear hr
      go_enter Tryz.func216, Tryz.ntmps216
      go_wp2_with fail
      go_ret
      exact ⟨rfl, rfl⟩
  · obtain rfl : r = false := by rw [Bool.eq_false_iff]; intro h; exact h1 (hr.1 h).1
    clear hr
    go_enter Tryz.func216, Tryz.ntmps216
    go_wp2_with fail
    go_ret
    exact ⟨rfl, rfl⟩
theorem dnum_any (n : Int) (r : Bool) (w : World) (hr : r = true ↔ 3 ≤ n ∧ n ≤ 258) : Calls Tryz.prog 217 #[.int .i64 n] w fun e w' => e = .returned (.bool r) ∧ w' = w := by
  by_cases h1 : 3 ≤ n
  · by_cases h2 : n ≤ 258
    · obtain rfl : r = true := hr.2 ⟨h1, h2⟩
      clear hr
      go_enter Tryz.func217, Tryz.ntmps217
      go_wp2_with fail
      go_ret
      exact ⟨rfl, rfl⟩
    · obtain rfl : r = false := by rw [Bool.eq_false_iff]; intro h; exact h2 (hr.1 h).2
      clear hr
      go_enter Tryz.func217, Tryz.ntmps217
      go_wp2_with fail
      go_ret
      exact ⟨rfl, rfl⟩
  · obtain rfl : r = false := by rw [Bool.eq_false_iff]; intro h; exact h1 (hr.1 h).1
    clear hr
    go_enter Tryz.func217, Tryz.ntmps217
    go_wp2_with fail
    go_ret
    exact ⟨rfl, rfl⟩
set_option maxRecDepth 100000 in
set_option maxHeartbeats 1000000 in
theorem dmay_any (v : Value) (zs : List Int) (r : Bool) (w : World) (hv : IsInts w v zs) (hr : r = true ↔ May zs) (hz : zs.length ≤ 9223372036854775807) :
    Calls Tryz.prog 160 #[v] w fun e w' => e = .returned (.bool r) ∧ w' = w := by
  have HV := Lib.hid hv
  have HRR := Lib.hid hr
  obtain ⟨ad, cap, rfl, _⟩ := hv
  clear hr
  go_enter Tryz.func160, Tryz.ntmps160
  go_wp2_with fail
  go_loopw [7] (fun i wr => ∃ k : Nat, k ≤ zs.length ∧ i = .int .i64 k ∧ wr = w ∧ ∀ j, j < k → 1 ≤ zs.getD j 0 ∧ zs.getD j 0 ≤ 20) (fun i _ => zs.length - (intOf i).toNat)
  case atStart => exact ⟨0, by omega, rfl, rfl, fun j hj => by omega⟩
  case round =>
    obtain ⟨k, hk, rfl, rfl, hA⟩ := hrel
    have HA := Lib.hid hA
    clear hA
    by_cases hlk : k < zs.length
    · have hki : (k : Int) < (zs.length : Int) := by omega
      obtain ⟨b1, o1, k1, he1, c1⟩ := HV.out.cell hlk
      simp only [Value.slice.injEq] at he1
      obtain ⟨rfl, _, rfl⟩ := he1
      obtain ⟨x, hx⟩ : ∃ x, zs.getD k 0 = x := ⟨_, rfl⟩
      rw [hx] at c1
      have HX := Lib.hid hx
      clear hx
      by_cases h1 : 1 ≤ x ∧ x ≤ 20
      · have HL := Lib.hid (fun W => dlen_any x true W ⟨fun _ => h1, fun _ => rfl⟩)
        go_wp2_with fail
        refine (HL.out _).mono ?_
        rintro e w' ⟨rfl, rfl⟩
        go_wp2_with fail
        go_roundw
        case rel => exact ⟨k + 1, by omega, by go_num, (by first | rfl | trivial), fun j hj => by
            by_cases e : j = k
            · subst e; rw [HX.out]; omega
            · exact HA.out j (by omega)⟩
        case measure => simp [intOf]; omega
      · have HL := Lib.hid (fun W => dlen_any x false W ⟨fun e => (by cases e), fun e => absurd e h1⟩)
        have hrf : r = false := by
          rw [Bool.eq_false_iff, Ne, HRR.out]
          intro h
          have := h.2.2 _ (getD_mem hlk)
          rw [HX.out] at this
          exact h1 this
        subst hrf
        clear h1
        go_wp2_with fail
        refine (HL.out _).mono ?_
        rintro e w' ⟨rfl, rfl⟩
        go_wp2_with fail
        go_ret
        exact ⟨rfl, rfl⟩
    · have hki : ¬ (k : Int) < (zs.length : Int) := by omega
      have hw : ∀ z ∈ zs, 1 ≤ z ∧ z ≤ 20 := within_of (fun j hj => HA.out j (by omega))
      have HL := Lib.hid (fun W => dnum_any (zs.length : Int) r W ⟨fun e => by have := HRR.out.1 e; exact ⟨by have := this.1; omega, by have := this.2.1; omega⟩, fun e => HRR.out.2 ⟨by omega, by omega, hw⟩⟩)
      clear hw
      go_wp2_with fail
      refine (HL.out _).mono ?_
      rintro e w' ⟨rfl, rfl⟩
      go_wp2_with fail
      go_ret
      exact ⟨rfl, rfl⟩
/-! ### What is written -/
theorem two_put (b : Bool) (k : Nat) : two b k ++ field (if b then 3 else 2) 2 = two b (k + 1) := by
  cases b <;> rfl
theorem q2_put (q : List Bool) (b : Bool) (k : Nat) : q ++ two b k ++ field (if b then 3 else 2) 2 = q ++ two b (k + 1) := by rw [List.append_assoc, two_put]
set_option maxRecDepth 100000 in
set_option maxHeartbeats 4000000 in
theorem dwrite_any (g : Nat) (v l : Value) (zs : List Int) (q : List Bool) (tk : Nat) (w : World) (hw : IsWriter w g v q tk) (hst : ∀ w', Touch (foot g v) w w' → IsInts w' l zs) (hm : May zs) (hq : q.length ≤ 1099511600000) :
    Calls Tryz.prog 98 #[.pointer (some ⟨g, 0, none⟩), l] w fun e w' => e = .returned (.int .i64 0) ∧ Wrote w g v tk (q ++ allB zs) w' := by
  have hv := hst w (Touch.refl _ _)
  have HV := Lib.hid hv
  have HST := Lib.hid hst
  have HM := Lib.hid hm
  have HMAY := Lib.hid (dmay_any l zs true w hv ⟨fun _ => hm, fun _ => rfl⟩ (by have := hm.2.1; omega))
  have HS := Lib.hid (Wrote.start hw)
  have h3 := hm.1
  have h258 := hm.2.1
  obtain ⟨ad, cap, rfl, _⟩ := hv
  have HL : Hid (∀ k, k ≤ zs.length → (encK zs k).length ≤ 11000) := Lib.hid (fun k hk => by have := (encK_le HM.out hk).1; omega)
  obtain ⟨N, hN⟩ : ∃ N, zs.length = N := ⟨_, rfl⟩
  have HN := Lib.hid hN
  rw [hN] at h3 h258 HMAY HV HST ⊢
  clear hst hm hw hN
  obtain ⟨b1, o1, k1, he1, c1⟩ := HV.out.cell (k := 0) (by rw [HN.out]; omega)
  rw [HN.out] at he1
  simp only [Value.slice.injEq] at he1
  obtain ⟨rfl, _, rfl⟩ := he1
  have hz0 := HM.out.at_ (k := 0) (by rw [HN.out]; omega)
  obtain ⟨x0, hx0⟩ : ∃ x0, zs.getD 0 0 = x0 := ⟨_, rfl⟩
  rw [hx0] at c1 hz0
  rw [Nat.add_zero] at c1
  obtain ⟨X0, rfl⟩ : ∃ X0 : Nat, x0 = (X0 : Int) := ⟨x0.toNat, by omega⟩
  have hX20 : X0 ≤ 20 := by omega
  have HALL : Hid (allB zs = field X0 5 ++ encK zs N) := Lib.hid (by unfold allB; rw [hx0, HN.out]; rfl)
  have HPRV : Hid (prv zs 0 = (X0 : Int)) := Lib.hid hx0
  have HP1 := Lib.hid (fun W (hh : Wrote w g v tk q W) => hh.put X0 5 (by omega) (show X0 < 32 by omega) (by omega))
  have hc32 : IntKind.u32.wrap (X0 : Int) = (X0 : Int) := by simp [IntKind.wrap, IntKind.bits, IntKind.signed]; omega
  clear hx0 hz0
  have hN0 : (0 : Int) < (N : Int) := by omega
  go_enter Tryz.func98, Tryz.ntmps98
  go_wp2_with fail
  refine HMAY.out.mono ?_
  rintro e w' ⟨rfl, rfl⟩
  go_wp2_with fail
  refine (HP1.out _ HS.out).mono ?_
  rintro e w1 ⟨rfl, hW1⟩
  have HW1 := Lib.hid hW1
  clear hW1 HP1 c1
  go_wp2_with fail
  go_loopw [5, 22] (fun vl vk wr => ∃ k : Nat, vk = .int .i64 (k : Int) ∧ k ≤ N ∧ vl = .int .i64 (prv zs k) ∧ Wrote w' g v tk (q ++ field X0 5 ++ encK zs k) wr) (fun _ vk _ => N - (intOf vk).toNat)
  case atStart => exact ⟨0, rfl, by omega, by rw [HPRV.out], by rw [show encK zs 0 = [] from rfl, List.append_nil]; exact HW1.out⟩
  case round =>
    clear HW1 HS
    obtain ⟨k, rfl, hk, rfl, hW⟩ := hrel
    have HW := Lib.hid hW
    clear hW
    by_cases hlk : k < N
    · have hki : (k : Int) < (N : Int) := by omega
      have hkz : k < zs.length := by rw [HN.out]; exact hlk
      have HVk := Lib.hid (HST.out wr HW.out.touch)
      obtain ⟨b1, o1, k1, he1, c1⟩ := HVk.out.cell hkz
      rw [HN.out] at he1
      simp only [Value.slice.injEq] at he1
      obtain ⟨he1, _, rfl⟩ := he1
      simp only [Option.some.injEq, Addr.mk.injEq, and_true] at he1
      obtain ⟨rfl, rfl⟩ := he1
      have hzk := HM.out.at_ hkz
      have hpk := HM.out.prv (k := k) (by omega)
      have HLk := Lib.hid (HL.out k (by rw [HN.out]; omega))
      have HEN : Hid (encK zs (k + 1) = encK zs k ++ (mv (prv zs k) (zs.getD k 0) ++ [false])) := Lib.hid rfl
      have HPS : Hid (prv zs (k + 1) = zs.getD k 0) := Lib.hid rfl
      obtain ⟨x, hx⟩ : ∃ x, zs.getD k 0 = x := ⟨_, rfl⟩
      obtain ⟨p, hp⟩ : ∃ p, prv zs k = p := ⟨_, rfl⟩
      rw [hx] at c1 hzk HEN HPS
      rw [hp] at hpk HEN ⊢
      obtain ⟨Q, hQ⟩ : ∃ Q, q ++ field X0 5 ++ encK zs k = Q := ⟨_, rfl⟩
      have HQ := Lib.hid hQ
      have hQl : Q.length ≤ 1099511620000 := by
        have := HLk.out
        rw [← hQ, List.length_append, List.length_append, field_length]
        omega
      rw [hQ] at HW
      clear hx hp hQ HVk
      go_wp2_with fail
      go_loopw [5] (fun vl wr2 => ∃ j : Nat, j ≤ (x - p).toNat ∧ vl = .int .i64 (p + (j : Int)) ∧ Wrote w' g v tk (Q ++ two false j) wr2) (fun vl _ => (x - intOf vl).toNat)
      case atStart => exact ⟨0, by omega, by simp, by rw [show two false 0 = [] from rfl, List.append_nil]; exact HW.out⟩
      case round =>
        clear HW c1
        obtain ⟨j, hj, rfl, hWj⟩ := hrel
        have HWj := Lib.hid hWj
        clear hWj
        have hl2 : (Q ++ two false j).length ≤ 1099511627776 := by rw [List.length_append, two_length]; omega
        have HP2 := Lib.hid (HWj.out.put 2 2 (by omega) (by decide) hl2)
        clear hl2
        by_cases hlt : p + (j : Int) < x
        · go_wp2_with fail
          refine HP2.out.mono ?_
          rintro e w3 ⟨rfl, hW3⟩
          have HW3 : Hid (Wrote w' g v tk (Q ++ two false (j + 1)) w3) := Lib.hid (by rw [← q2_put Q false j]; exact hW3)
          clear hW3
          go_wp2_with fail
          go_roundw
          case rel => exact ⟨j + 1, by omega, by go_num, HW3.out⟩
          case measure => simp [intOf]; omega
        · have hge : ¬ p + (j : Int) < x := hlt
          obtain ⟨Q2, hQ2⟩ : ∃ Q2, Q ++ two false j = Q2 := ⟨_, rfl⟩
          have HQ2 : Hid (Q2 = Q ++ two false (x - p).toNat) := Lib.hid (by rw [← hQ2]; congr 2; omega)
          have hQ2l : Q2.length ≤ 1099511625000 := by rw [← hQ2, List.length_append, two_length]; omega
          rw [hQ2] at HWj
          clear hQ2 HP2
          obtain ⟨p2, hp2⟩ : ∃ p2, p + (j : Int) = p2 := ⟨_, rfl⟩
          rw [hp2] at hlt hge ⊢
          have HPM : Hid (p2 = max p x) := Lib.hid (by omega)
          have hp2b : 1 ≤ p2 ∧ p2 ≤ 20 := by omega
          clear hp2
          go_wp2_with fail
          obtain ⟨wz, rfl⟩ : ∃ wz : World, wz = wr := ⟨_, rfl⟩
          go_loopw [5] (fun vl wr3 => ∃ i : Nat, i ≤ (p - x).toNat ∧ vl = .int .i64 (p2 - (i : Int)) ∧ Wrote w' g v tk (Q2 ++ two true i) wr3) (fun vl _ => (intOf vl - x).toNat)
          case atStart => exact ⟨0, by omega, by simp, by rw [show two true 0 = [] from rfl, List.append_nil]; exact HWj.out⟩
          case round =>
            clear HWj
            obtain ⟨i, hi, rfl, hWi⟩ := hrel
            have HWi := Lib.hid hWi
            clear hWi
            have hl2 : (Q2 ++ two true i).length ≤ 1099511627776 := by rw [List.length_append, two_length]; omega
            have HP2 := Lib.hid (HWi.out.put 3 2 (by omega) (by decide) hl2)
            have HP3 := Lib.hid (HWi.out.put 0 1 (by omega) (by decide) hl2)
            clear hl2
            by_cases hgt : x < p2 - (i : Int)
            · go_wp2_with fail
              refine HP2.out.mono ?_
              rintro e w3 ⟨rfl, hW3⟩
              have HW3 : Hid (Wrote w' g v tk (Q2 ++ two true (i + 1)) w3) := Lib.hid (by rw [← q2_put Q2 true i]; exact hW3)
              clear hW3
              go_wp2_with fail
              go_roundw
              case rel => exact ⟨i + 1, by have := HPM.out; omega, by go_num, HW3.out⟩
              case measure => simp [intOf]; omega
            · have hge2 : ¬ x < p2 - (i : Int) := hgt
              have hlast : p2 - (i : Int) = x := by have := HPM.out; omega
              have hi2 : Hid (i = (p - x).toNat) := Lib.hid (by have := HPM.out; omega)
              rw [hlast] at hgt hge2 ⊢
              clear hlast
              go_wp2_with fail
              refine HP3.out.mono ?_
              rintro e w3 ⟨rfl, hW3⟩
              have HW3 : Hid (Wrote w' g v tk (q ++ field X0 5 ++ encK zs (k + 1)) w3) := Lib.hid (by
                rw [HEN.out, ← List.append_assoc, HQ.out]
                unfold mv
                rw [hi2.out, HQ2.out] at hW3
                rw [List.append_assoc (two false _), ← List.append_assoc, ← List.append_assoc]
                exact hW3)
              clear hW3
              go_wp2_with fail
              go_roundw
              case rel => exact ⟨k + 1, by go_num, by omega, by rw [HPS.out], HW3.out⟩
              case measure => simp [intOf]; omega
    · have hki : ¬ (k : Int) < (N : Int) := by omega
      obtain rfl : k = N := by omega
      go_wp2_with fail
      go_ret
      exact ⟨rfl, by rw [HALL.out, ← List.append_assoc]; exact HW.out⟩
end Go.Proofs.YtojphcoghbiepaaGreatDoor
namespace Go.Proofs.YtojphcoghbiepaaGreatDoor
open Go.RowKit DelM BitM
set_option linter.unusedVariables false
/-- Block b is a reader's object, its cells told by F. -/
def Obj262 (w : World) (b : Nat) (F : Nat → Value) : Prop := w.heap[b]? = some (.cells (cellsF 262 F) 283 (0, 0))
theorem Obj262.cell {w : World} {b : Nat} {F : Nat → Value} (h : Obj262 w b F) {i : Nat} (hi : i < 262) : w.cell? ⟨b, i, none⟩ = some (F i) ∧ w.frozen? ⟨b, i, none⟩ = false :=
  ⟨(cell_of_row _ _ _ _ _ _ h).trans (cellsF_get 262 F hi), frozen_of_row _ _ _ _ _ h⟩
theorem Obj262.set {w : World} {b : Nat} {F : Nat → Value} (h : Obj262 w b F) (i : Nat) (x : Value) : Obj262 (w.setCell ⟨b, i, none⟩ x) b (upd F i x) := by
  have := heap_setCell_same w b i _ _ x h
  rw [cellsF_set] at this
  exact this
theorem Obj262.lt {w : World} {b : Nat} {F : Nat → Value} (h : Obj262 w b F) : b < w.heap.size := (Array.getElem?_eq_some_iff.1 h).1
theorem Obj262.other {w w' : World} {b : Nat} {F : Nat → Value} (h : Obj262 w b F) {S : Nat → Prop} (ht : Touch S w w') (hS : ¬ S b) : Obj262 w' b F :=
  (ht.block b h.lt hS).trans h
theorem Obj262.drewN {w : World} {b : Nat} {F : Nat → Value} (h : Obj262 w b F) (n : Nat) : Obj262 (w.drewN n) b F := h
/-- What the cells are: so many are to be read, ls were, now was told last, and whether a length was none. -/
structure DF (F : Nat → Value) (N : Nat) (ls : List Int) (now : Int) (bad : Bool) : Prop where
  size : F 0 = .int .i64 (N : Int)
  read : F 1 = .int .i64 (ls.length : Int)
  lens : ∀ j, j < ls.length → F (2 + j) = .int .i64 (ls.getD j 0)
  last : F 260 = .int .i64 now
  wrong : F 261 = .bool bad
def IsDel (w : World) (b : Nat) (N : Nat) (ls : List Int) (now : Int) (bad : Bool) : Prop := ∃ F, Obj262 w b F ∧ DF F N ls now bad ∧ ls.length ≤ N ∧ N ≤ 258
theorem IsDel.lt {w : World} {b N : Nat} {ls : List Int} {now : Int} {bad : Bool} (h : IsDel w b N ls now bad) : b < w.heap.size := by
  obtain ⟨F, h, _⟩ := h
  exact h.lt
theorem IsDel.other {w w' : World} {b N : Nat} {ls : List Int} {now : Int} {bad : Bool} (h : IsDel w b N ls now bad) {S : Nat → Prop} (ht : Touch S w w') (hS : ¬ S b) : IsDel w' b N ls now bad := by
  obtain ⟨F, h1, h2⟩ := h
  exact ⟨F, h1.other ht hS, h2⟩
theorem IsDel.le {w : World} {b N : Nat} {ls : List Int} {now : Int} {bad : Bool} (h : IsDel w b N ls now bad) : ls.length ≤ N ∧ N ≤ 258 := by
  obtain ⟨F, h1, h2, h3, h4⟩ := h
  exact ⟨h3, h4⟩
theorem IsDel.cells {w : World} {b N : Nat} {ls : List Int} {now : Int} {bad : Bool} (h : IsDel w b N ls now bad) :
    w.cell? ⟨b, 0, none⟩ = some (.int .i64 (N : Int)) ∧ w.cell? ⟨b, 1, none⟩ = some (.int .i64 (ls.length : Int)) ∧ w.cell? ⟨b, 260, none⟩ = some (.int .i64 now) ∧ w.cell? ⟨b, 261, none⟩ = some (.bool bad) := by
  obtain ⟨F, h1, h2, _⟩ := h
  refine ⟨?_, ?_, ?_, ?_⟩
  · rw [(h1.cell (i := 0) (by omega)).1, h2.size]
  · rw [(h1.cell (i := 1) (by omega)).1, h2.read]
  · rw [(h1.cell (i := 260) (by omega)).1, h2.last]
  · rw [(h1.cell (i := 261) (by omega)).1, h2.wrong]
theorem IsDel.ints {w : World} {b N : Nat} {ls : List Int} {now : Int} {bad : Bool} (h : IsDel w b N ls now bad) : IsInts w (.slice (some ⟨b, 2, none⟩) ls.length 258) ls := by
  obtain ⟨F, h1, h2, h3, h4⟩ := h
  refine ⟨_, _, rfl, fun i x hx => ⟨b, 2, rfl, ?_⟩⟩
  obtain ⟨hi, hx2⟩ := List.getElem?_eq_some_iff.1 hx
  rw [(h1.cell (i := 2 + i) (by omega)).1, h2.lens i hi, List.getD_eq_getElem?_getD, hx]
  rfl
/-- A length is told last. -/
theorem IsDel.told {w : World} {b N : Nat} {ls : List Int} {now : Int} {bad : Bool} (h : IsDel w b N ls now bad) (x : Int) : IsDel (w.setCell ⟨b, 260, none⟩ (.int .i64 x)) b N ls x bad := by
  obtain ⟨F, h1, h2, h3, h4⟩ := h
  refine ⟨_, h1.set 260 _, ⟨?_, ?_, fun j hj => ?_, upd_same _ _ _, ?_⟩, h3, h4⟩
  · rw [upd_ne _ _ (by omega), h2.size]
  · rw [upd_ne _ _ (by omega), h2.read]
  · rw [upd_ne _ _ (by omega), h2.lens j hj]
  · rw [upd_ne _ _ (by omega), h2.wrong]
theorem IsDel.spoilt {w : World} {b N : Nat} {ls : List Int} {now : Int} {bad : Bool} (h : IsDel w b N ls now bad) (x : Bool) : IsDel (w.setCell ⟨b, 261, none⟩ (.bool x)) b N ls now x := by
  obtain ⟨F, h1, h2, h3, h4⟩ := h
  refine ⟨_, h1.set 261 _, ⟨?_, ?_, fun j hj => ?_, ?_, upd_same _ _ _⟩, h3, h4⟩
  · rw [upd_ne _ _ (by omega), h2.size]
  · rw [upd_ne _ _ (by omega), h2.read]
  · rw [upd_ne _ _ (by omega), h2.lens j hj]
  · rw [upd_ne _ _ (by omega), h2.last]
/-- A length is read. -/
theorem IsDel.push {w : World} {b N : Nat} {ls : List Int} {now : Int} {bad : Bool} (h : IsDel w b N ls now bad) (hl : ls.length < N) (A : Nat) (hA : 2 + ls.length = A) (m : Nat) (X : Int) (hX : X = ((ls.length + 1 : Nat) : Int)) (x : Int) :
    IsDel (((w.setCell ⟨b, A, none⟩ (.int .i64 x)).drewN m).setCell ⟨b, 1, none⟩ (.int .i64 X)) b N (ls ++ [x]) now bad := by
  obtain ⟨F, h1, h2, h3, h4⟩ := h
  subst hX
  have hlen : (ls ++ [x]).length = ls.length + 1 := by rw [List.length_append]; rfl
  refine ⟨_, ((h1.set A _).drewN m).set 1 _, ⟨?_, ?_, fun j hj => ?_, ?_, ?_⟩, by rw [hlen]; exact hl, h4⟩
  · rw [upd_ne _ _ (by omega), upd_ne _ _ (by omega), h2.size]
  · rw [upd_same, hlen]
  · rw [upd_ne _ _ (by omega)]
    rw [hlen] at hj
    by_cases e : j = ls.length
    · subst e
      rw [hA, upd_same, List.getD_eq_getElem?_getD, List.getElem?_append_right (Nat.le_refl _), Nat.sub_self]
      rfl
    · rw [upd_ne _ _ (by omega), h2.lens j (by omega), List.getD_eq_getElem?_getD, List.getD_eq_getElem?_getD, List.getElem?_append_left (by omega)]
  · rw [upd_ne _ _ (by omega), upd_ne _ _ (by omega), h2.last]
  · rw [upd_ne _ _ (by omega), upd_ne _ _ (by omega), h2.wrong]
set_option maxRecDepth 100000 in
def zero262 (x : Value) (i : Nat) : Value := if i = 0 then x else if i < 261 then .int .i64 0 else .bool false
set_option maxRecDepth 100000 in
theorem built262 (x : Int) : Tryz.prog.built 283 [(0, .int .i64 x)] = some (cellsF 262 (zero262 (.int .i64 x))) := by kernel_rfl
set_option maxRecDepth 100000 in
set_option maxHeartbeats 1000000 in
theorem dnew_yes (N : Nat) (w : World) (h3 : 3 ≤ N) (h258 : N ≤ 258) :
    Calls Tryz.prog 226 #[.int .i64 (N : Int)] w fun e w' => e = .returned (.tuple #[.pointer (some ⟨w.heap.size, 0, none⟩), .int .i64 0]) ∧ IsDel w' w.heap.size N [] 0 false ∧ Below w.heap.size w w' := by
  have HN := Lib.hid (dnum_any (N : Int) true w ⟨fun _ => by omega, fun _ => rfl⟩)
  have hb := built262 (N : Int)
  have hobj : Hid (IsDel (w.alloc (.cells (cellsF 262 (zero262 (.int .i64 (N : Int)))) 283)) w.heap.size N [] 0 false) := Lib.hid ⟨_, heap_alloc_new w _, ⟨rfl, rfl, fun j hj => absurd hj (by simp), rfl, rfl⟩, Nat.zero_le _, h258⟩
  generalize cellsF 262 (zero262 (.int .i64 (N : Int))) = Z at *
  go_enter Tryz.func226, Tryz.ntmps226
  go_wp2_with fail
  refine HN.out.mono ?_
  rintro e w' ⟨rfl, rfl⟩
  go_wp2_with (refine wpList_build_one rfl 283 0 _ rfl _ rfl Z hb ?_)
  go_ret2
  exact ⟨rfl, hobj.out, (Below.refl _ _).alloc (Nat.le_refl _) _⟩
set_option maxHeartbeats 400000 in
theorem ddone_any (b N : Nat) (ls : List Int) (now : Int) (bad r : Bool) (w : World) (h : IsDel w b N ls now bad) (hr : r = true ↔ ls.length = N) : Calls Tryz.prog 253 #[.pointer (some ⟨b, 0, none⟩)] w fun e w' => e = .returned (.bool r) ∧ ∃ n, w' = w.drewN n := by
  obtain ⟨c0, c1, c2, c3⟩ := h.cells
  have hl := h.le
  have hb : ((ls.length : Int) == (N : Int)) = r := by
    rw [Bool.eq_iff_iff, beq_iff_eq, hr]
    omega
  obtain ⟨k, hk⟩ : ∃ k, ls.length = k := ⟨_, rfl⟩
  rw [hk] at c1 hb
  clear h hr hk hl
  go_enter Tryz.func253, Tryz.ntmps253
  go_wp2_with fail
  go_quiet (fail)
  go_wp2_with fail
  go_ret
  exact ⟨by first | rfl | rw [hb], _, rfl⟩
theorem slice258 (W : World) (b n : Nat) (hn : n ≤ 258) : (Instr.sliceAt 210 (.pointer (some ⟨b, 2, none⟩)) none (some (.int .i64 (n : Int))) none).run Tryz.prog W = .ok (.slice (some ⟨b, 2, none⟩) n 258) W := by
  have e : Tryz.prog.arrayLen 210 = 258 := by kernel_rfl
  have hs : (sizeOf (Tryz.prog.elem 210)).run Tryz.prog W = .ok 1 W := by kernel_rfl
  rw [run_sliceAt_array_h W _ ⟨b, 2, none⟩ (by kernel_rfl) .i64 (n : Int) (by omega) (by rw [e]; omega), hs]
  simp [Result.andThen, slicedAt, e, Addr.add]
set_option maxRecDepth 100000 in
set_option maxHeartbeats 1000000 in
theorem dlens_any (b N : Nat) (ls : List Int) (now : Int) (bad : Bool) (w : World) (h : IsDel w b N ls now bad) : Calls Tryz.prog 254 #[.pointer (some ⟨b, 0, none⟩)] w fun e w' => ∃ v, e = .returned v ∧ OwnI w' w.heap.size v ls ∧ Below w.heap.size w w' := by
  obtain ⟨c0, c1, c2, c3⟩ := h.cells
  have hl := h.le
  have hsl := fun W => slice258 W b ls.length (by omega)
  have HC := Lib.hid (clone_any b 2 ls.length 258 ls (w.drewN 1) h.ints (by omega))
  obtain ⟨k, hk⟩ : ∃ k, ls.length = k := ⟨_, rfl⟩
  rw [hk] at c1 hsl HC
  clear h hk hl
  go_enter Tryz.func254, Tryz.ntmps254
  go_wp2_with fail
  go_still_tail 8, (by kernel_rfl)
  change wpList _ _ _ _ _ (w.drewN 1)
  clear hsl
  go_wp2_with fail
  refine HC.out.mono ?_
  rintro e w' ⟨v, rfl, hO, hB⟩
  have HO := Lib.hid hO
  have HB := Lib.hid hB
  clear hO hB
  go_wp2_with fail
  go_ret
  exact ⟨v, rfl, HO.out, (below_drewN w 1).trans HB.out⟩
set_option maxHeartbeats 1000000 in
theorem dtell_any (b N : Nat) (ls : List Int) (now x : Int) (w : World) (h : IsDel w b N ls now false) :
    Calls Tryz.prog 281 #[.pointer (some ⟨b, 0, none⟩), .int .i64 x] w fun e w' => e = .returned (.int .i64 (eOf (okLen x))) ∧ IsDel w' b N ls x (!okLen x) ∧ Touch (· = b) w w' := by
  have c2 : w.cell? ⟨b, 260, none⟩ = some (.int .i64 now) := h.cells.2.2.1
  have f2 : w.frozen? ⟨b, 260, none⟩ = false := by obtain ⟨F, k, _⟩ := h; exact (k.cell (i := 260) (by omega)).2
  have h1 := h.told x
  have t1 : Touch (· = b) w (w.setCell ⟨b, 260, none⟩ (.int .i64 x)) := touch_cell (Touch.refl _ _)
  have c3 : (w.setCell ⟨b, 260, none⟩ (.int .i64 x)).cell? ⟨b, 261, none⟩ = some (.bool false) := h1.cells.2.2.2
  have f3 : (w.setCell ⟨b, 260, none⟩ (.int .i64 x)).frozen? ⟨b, 261, none⟩ = false := by obtain ⟨F, k, _⟩ := h1; exact (k.cell (i := 261) (by omega)).2
  have H1 := Lib.hid h1
  have T1 := Lib.hid t1
  have HL := Lib.hid (fun W => dlen_any x (okLen x) W (okLen_iff x))
  clear h h1 t1
  generalize okLen x = r at *
  cases r
  · go_enter Tryz.func281, Tryz.ntmps281
    go_wp2_with fail
    generalize w.setCell ⟨b, 260, none⟩ (.int .i64 x) = w1 at *
    refine (HL.out w1).mono ?_
    rintro e w' ⟨rfl, rfl⟩
    go_wp2_with fail
    go_ret
    exact ⟨rfl, H1.out.spoilt true, touch_cell T1.out⟩
  · go_enter Tryz.func281, Tryz.ntmps281
    go_wp2_with fail
    generalize w.setCell ⟨b, 260, none⟩ (.int .i64 x) = w1 at *
    refine (HL.out w1).mono ?_
    rintro e w' ⟨rfl, rfl⟩
    go_wp2_with fail
    go_ret
    exact ⟨rfl, H1.out, T1.out⟩
/-- The closure's cells: which reader, and where a step began. -/
def Caught (w : World) (g3 g5 rb sp0 : Nat) : Prop := w.cell? ⟨g3, 0, none⟩ = some (.pointer (some ⟨rb, 0, none⟩)) ∧ w.cell? ⟨g5, 0, none⟩ = some (.int .i64 (sp0 : Int)) ∧ g3 ≠ rb ∧ g5 ≠ rb
theorem Caught.other {w w' : World} {g3 g5 rb sp0 : Nat} (h : Caught w g3 g5 rb sp0) {S : Nat → Prop} (ht : Touch S w w') (h3 : ¬ S g3) (h5 : ¬ S g5) : Caught w' g3 g5 rb sp0 := by
  obtain ⟨a, b, c, d⟩ := h
  refine ⟨?_, ?_, c, d⟩
  · rw [World.cell?_of_block (w := w) (a := ⟨g3, 0, none⟩) (ht.block g3 (cell_lt a) h3)]; exact a
  · rw [World.cell?_of_block (w := w) (a := ⟨g5, 0, none⟩) (ht.block g5 (cell_lt b) h5)]; exact b
set_option maxHeartbeats 1000000 in
theorem dget_any (g3 g5 rb sp0 : Nat) (v : Value) (l : List UInt8) (dr sp p n : Nat) (w : World) (hc : Caught w g3 g5 rb sp0) (hr : IsReader w rb v l dr sp p) (hs : dr + l.length ≤ 1099511627776) (hn : n ≤ 31) (hp : p + n ≤ 8 * (dr + l.length)) :
    Calls Tryz.prog 272 #[.int .i64 (n : Int), .pointer (some ⟨g3, 0, none⟩), .pointer (some ⟨g5, 0, none⟩)] w fun e w' => e = .returned (.tuple #[.int .i64 (num (((bitsOf l).drop (p - 8 * dr)).take n) : Int), .int .i64 0]) ∧ IsReader w' rb v l dr sp (p + n) ∧ Touch (· = rb) w w' := by
  obtain ⟨a3, a5, _, _⟩ := hc
  have HR := Lib.hid hr
  have hX : num (((bitsOf l).drop (p - 8 * dr)).take n) < 2147483648 := Nat.lt_of_lt_of_le (num_lt _) (Nat.pow_le_pow_right (by omega) (by rw [List.length_take]; omega) : 2 ^ _ ≤ 2 ^ 31)
  have HG := Lib.hid (get_any rb v l dr sp p n w hr hs (by omega) hp)
  generalize num (((bitsOf l).drop (p - 8 * dr)).take n) = X at *
  clear hr
  go_enter Tryz.func272, Tryz.ntmps272
  go_wp2_with fail
  refine HG.out.mono ?_
  rintro e w1 ⟨rfl, hr1, ht1⟩
  have HR1 := Lib.hid hr1
  have HT1 := Lib.hid ht1
  clear hr1 ht1
  go_wp2_with fail
  go_ret2
  exact ⟨rfl, HR1.out, HT1.out⟩
set_option maxHeartbeats 1000000 in
theorem dget_short (g3 g5 rb sp0 : Nat) (v : Value) (l : List UInt8) (dr sp p n : Nat) (w : World) (hc : Caught w g3 g5 rb sp0) (hr : IsReader w rb v l dr sp p) (hs : dr + l.length ≤ 1099511627776) (hn : n ≤ 31) (hp : 8 * (dr + l.length) < p + n) (h1 : 8 * dr ≤ sp0) (h2 : sp0 ≤ 8 * (dr + l.length)) :
    Calls Tryz.prog 272 #[.int .i64 (n : Int), .pointer (some ⟨g3, 0, none⟩), .pointer (some ⟨g5, 0, none⟩)] w fun e w' => e = .returned (.tuple #[.int .i64 0, .int .i64 3]) ∧ IsReader w' rb v l dr sp sp0 ∧ Touch (· = rb) w w' := by
  obtain ⟨a3, a5, _, _⟩ := hc
  have HR := Lib.hid hr
  have HG := Lib.hid (get_short rb v l dr sp p n w hr hs (by omega) hp)
  clear hr
  go_enter Tryz.func272, Tryz.ntmps272
  go_wp2_with fail
  refine HG.out.mono ?_
  rintro e w1 ⟨rfl, m, hw1⟩
  have HR1 : Hid (IsReader w1 rb v l dr sp p) := Lib.hid (by rw [hw1]; exact HR.out.drewN m)
  have HT1 : Hid (Touch (· = rb) w w1) := Lib.hid (by rw [hw1]; exact touch_drewN _ _ m)
  have a3' : w1.cell? ⟨g3, 0, none⟩ = some (.pointer (some ⟨rb, 0, none⟩)) := by rw [hw1]; exact a3
  have a5' : w1.cell? ⟨g5, 0, none⟩ = some (.int .i64 (sp0 : Int)) := by rw [hw1]; exact a5
  clear hw1 a3 a5
  go_wp2_with fail
  refine (seek_yes rb v l dr sp p sp0 w1 HR1.out hs h1 h2).mono ?_
  rintro e w2 ⟨rfl, hr2, ht2⟩
  have HR2 := Lib.hid hr2
  have HT2 : Hid (Touch (· = rb) w w2) := Lib.hid (HT1.out.trans ht2 (fun j hj => Or.inl hj))
  clear hr2 ht2
  go_wp2_with fail
  go_ret2
  exact ⟨rfl, HR2.out, HT2.out⟩
end Go.Proofs.YtojphcoghbiepaaGreatDoor
namespace Go.Proofs.YtojphcoghbiepaaGreatDoor
open Go.RowKit DelM BitM
set_option linter.unusedVariables false
/-- What a step leaves: the reader b as o tells it, the bits' reader rb so many bits further on. -/
def StepD (w w' : World) (b rb N : Nat) (v : Value) (l : List UInt8) (dr sp p : Nat) (o : DO) (e : Ending) : Prop :=
  e = .returned (.int .i64 o.err) ∧ IsDel w' b N o.ls o.now o.bad ∧ IsReader w' rb v l dr sp (p + o.used) ∧ Touch (fun k => k = b ∨ k = rb) w w'
theorem touch_l {w w' : World} {b rb : Nat} (h : Touch (· = b) w w') : Touch (fun k => k = b ∨ k = rb) w w' := h.mono (fun _ hk => Or.inl hk)
theorem touch_r {w w' : World} {b rb : Nat} (h : Touch (· = rb) w w') : Touch (fun k => k = b ∨ k = rb) w w' := h.mono (fun _ hk => Or.inr hk)
theorem touch_tr {w w1 w2 : World} {b rb : Nat} (h : Touch (fun k => k = b ∨ k = rb) w w1) (k : Touch (fun k => k = b ∨ k = rb) w1 w2) : Touch (fun k => k = b ∨ k = rb) w w2 := h.trans k (fun _ hj => Or.inl hj)
set_option maxHeartbeats 1000000 in
theorem first_any (b rb g3 g5 N : Nat) (ls : List Int) (v : Value) (l : List UInt8) (dr sp p : Nat) (w : World) (hD : IsDel w b N ls 0 false) (hR : IsReader w rb v l dr sp p) (hC : Caught w g3 g5 rb p) (hs : dr + l.length ≤ 1099511627776)
    (hne : ∀ k, foot rb v k → k ≠ b) :
    Calls Tryz.prog 273 #[.pointer (some ⟨b, 0, none⟩), .func (.func 272) #[] #[.pointer (some ⟨g3, 0, none⟩), .pointer (some ⟨g5, 0, none⟩)]] w fun e w' =>
      StepD w w' b rb N v l dr sp p (dstep ((bitsOf l).drop (p - 8 * dr)) ls 0 false) e := by
  have HD := Lib.hid hD
  have HNE := Lib.hid hne
  have h1 := hR.2.2.2.1
  have h2 := hR.2.2.2.2
  have he : ∀ args w, (callFunc 272 args).run Tryz.prog w = .ok (.enter 272 args) w := enters_of Tryz.func272 (by kernel_rfl) rfl
  have hbr : Hid (b ≠ rb) := Lib.hid (fun e => hne rb (Or.inl rfl) e.symm)
  have hql : ((bitsOf l).drop (p - 8 * dr)).length = 8 * (dr + l.length) - p := by rw [List.length_drop, bitsOf_length]; omega
  by_cases h5 : ((bitsOf l).drop (p - 8 * dr)).length < 5
  · have HG := Lib.hid (dget_short g3 g5 rb p v l dr sp p 5 w hC hR hs (by omega) (by omega) h1 h2)
    have HO := Lib.hid (dstep_few ((bitsOf l).drop (p - 8 * dr)) ls h5)
    clear hD hR hC hne h1 h2 hql h5
    go_enter Tryz.func273, Tryz.ntmps273
    go_wp2_with fail
    refine HG.out.mono ?_
    rintro e w1 ⟨rfl, hr1, ht1⟩
    have K : Hid (StepD w w1 b rb N v l dr sp p (dstep ((bitsOf l).drop (p - 8 * dr)) ls 0 false) (.returned (.int .i64 3))) := Lib.hid (by
      rw [HO.out]
      exact ⟨rfl, HD.out.other ht1 hbr.out, hr1, touch_r ht1⟩)
    clear hr1 ht1
    go_wp2_with fail
    go_ret
    exact K.out
  · have HG := Lib.hid (dget_any g3 g5 rb p v l dr sp p 5 w hC hR hs (by omega) (by omega))
    have HO := Lib.hid (dstep_first ((bitsOf l).drop (p - 8 * dr)) ls h5)
    obtain ⟨X, hX⟩ : ∃ X, num (((bitsOf l).drop (p - 8 * dr)).take 5) = X := ⟨_, rfl⟩
    rw [hX] at HG HO
    clear hD hR hC hne h1 h2 hql h5 hX
    go_enter Tryz.func273, Tryz.ntmps273
    go_wp2_with fail
    refine HG.out.mono ?_
    rintro e w1 ⟨rfl, hr1, ht1⟩
    have HR1 := Lib.hid hr1
    have HT1 := Lib.hid ht1
    have HD1 := Lib.hid (HD.out.other ht1 hbr.out)
    clear hr1 ht1
    obtain ⟨E, hE⟩ : ∃ E, eOf (okLen (X : Int)) = E := ⟨_, rfl⟩
    have HE := Lib.hid hE
    have HTL := Lib.hid (dtell_any b N ls 0 (X : Int) w1 HD1.out)
    rw [hE] at HTL
    clear hE
    go_wp2_with fail
    refine HTL.out.mono ?_
    rintro e w2 ⟨rfl, hd2, ht2⟩
    have K : Hid (StepD w w2 b rb N v l dr sp p (dstep ((bitsOf l).drop (p - 8 * dr)) ls 0 false) (.returned (.int .i64 E))) := Lib.hid (by
      rw [HO.out, ← HE.out]
      exact ⟨rfl, hd2, HR1.out.other ht2 (fun k hk => HNE.out k hk), touch_tr (touch_r HT1.out) (touch_l ht2)⟩)
    clear hd2 ht2
    go_wp2_with fail
    go_ret
    exact K.out
theorem take_one {x : Bool} {t : List Bool} : num ((x :: t).take 1) = bn x := by cases x <;> rfl
set_option maxRecDepth 100000 in
set_option maxHeartbeats 2000000 in
theorem next_any11 (b rb g3 g5 N : Nat) (ls : List Int) (now : Int) (v : Value) (l : List UInt8) (dr sp p : Nat) (w : World) (hD : IsDel w b N ls now false) (hR : IsReader w rb v l dr sp p) (hC : Caught w g3 g5 rb p) (hs : dr + l.length ≤ 1099511627776)
    (hne : ∀ k, foot rb v k → k ≠ b) (hl : ls.length < N) (hn : 1 ≤ now ∧ now ≤ 20) (hg : g3 ≠ b ∧ g5 ≠ b) :
    Calls Tryz.prog 274 #[.pointer (some ⟨b, 0, none⟩), .func (.func 272) #[] #[.pointer (some ⟨g3, 0, none⟩), .pointer (some ⟨g5, 0, none⟩)]] w fun e w' =>
      StepD w w' b rb N v l dr sp p (dstep ((bitsOf l).drop (p - 8 * dr)) ls now false) e := by
  have HD := Lib.hid hD
  have HNE := Lib.hid hne
  have HC := Lib.hid hC
  have hN := hD.le.2
  have h1 := hR.2.2.2.1
  have h2 := hR.2.2.2.2
  have he : ∀ args w, (callFunc 272 args).run Tryz.prog w = .ok (.enter 272 args) w := enters_of Tryz.func272 (by kernel_rfl) rfl
  have hbr : Hid (b ≠ rb) := Lib.hid (fun e => hne rb (Or.inl rfl) e.symm)
  have hql : ((bitsOf l).drop (p - 8 * dr)).length = 8 * (dr + l.length) - p := by rw [List.length_drop, bitsOf_length]; omega
  have hn0 : now ≠ 0 := by omega
  have hdd : (bitsOf l).drop (p + 1 - 8 * dr) = ((bitsOf l).drop (p - 8 * dr)).drop 1 := by rw [List.drop_drop]; congr 1; omega
  have HGS := fun (h : 8 * (dr + l.length) < p + 1) => dget_short g3 g5 rb p v l dr sp p 1 w hC hR hs (by omega) h h1 h2
  have HG := fun (h : p + 1 ≤ 8 * (dr + l.length)) => dget_any g3 g5 rb p v l dr sp p 1 w hC hR hs (by omega) h
  obtain ⟨q, hq⟩ : ∃ q, (bitsOf l).drop (p - 8 * dr) = q := ⟨_, rfl⟩
  rw [hq] at hql hdd HG ⊢
  match q, hql, hdd, HG with
  | [], hql, hdd, HG =>
    have HG1 := Lib.hid (HGS (by simp only [List.length_nil] at hql; omega))
    clear hD hR hC hne h1 h2 hql hdd HGS HG hq
    go_enter Tryz.func274, Tryz.ntmps274
    go_wp2_with fail
    refine HG1.out.mono ?_
    rintro e w1 ⟨rfl, hr1, ht1⟩
    have K : Hid (StepD w w1 b rb N v l dr sp p (dstep [] ls now false) (.returned (.int .i64 3))) := Lib.hid (by
      rw [dstep_nil ls hn0]
      exact ⟨rfl, HD.out.other ht1 hbr.out, hr1, touch_r ht1⟩)
    clear hr1 ht1
    go_wp2_with fail
    go_ret
    exact K.out
  | [true], hql, hdd, HG =>
    have HG1 := HG (by simp only [List.length_cons, List.length_nil] at hql; omega)
    rw [take_one] at HG1
    have HG1' := Lib.hid HG1
    have HLT : Hid (8 * (dr + l.length) < p + 1 + 1) := Lib.hid (by simp only [List.length_cons, List.length_nil] at hql; omega)
    have HB1 := Lib.hid h1
    have HB2 := Lib.hid h2
    clear hD hR hC hne h1 h2 hql hdd HGS HG HG1 hq
    go_enter Tryz.func274, Tryz.ntmps274
    go_wp2_with fail
    refine HG1'.out.mono ?_
    rintro e w1 ⟨rfl, hr1, ht1⟩
    have HG2 := Lib.hid (dget_short g3 g5 rb p v l dr sp (p + 1) 1 w1 (HC.out.other ht1 HC.out.2.2.1 HC.out.2.2.2) hr1 hs (by omega) HLT.out HB1.out HB2.out)
    have HT1 := Lib.hid ht1
    have HD1 := Lib.hid (HD.out.other ht1 hbr.out)
    clear hr1 ht1
    have hb1 : ((bn true : Nat) : Int) = 1 := rfl
    rw [hb1]
    clear hb1
    go_wp2_with fail
    refine HG2.out.mono ?_
    rintro e w2 ⟨rfl, hr2, ht2⟩
    have K : Hid (StepD w w2 b rb N v l dr sp p (dstep [true] ls now false) (.returned (.int .i64 3))) := Lib.hid (by
      rw [dstep_one ls hn0]
      exact ⟨rfl, HD1.out.other ht2 hbr.out, hr2, touch_tr (touch_r HT1.out) (touch_r ht2)⟩)
    clear hr2 ht2
    go_wp2_with fail
    go_ret
    exact K.out
  | false :: t, hql, hdd, HG =>
    have HG1 := HG (by simp only [List.length_cons] at hql; omega)
    rw [take_one] at HG1
    have HG1' := Lib.hid HG1
    clear hD hR hC hne h1 h2 hql hdd HGS HG HG1 hq
    go_enter Tryz.func274, Tryz.ntmps274
    go_wp2_with fail
    refine HG1'.out.mono ?_
    rintro e w1 ⟨rfl, hr1, ht1⟩
    have HD1 := Lib.hid (HD.out.other ht1 hbr.out)
    have HR1 := Lib.hid hr1
    have HT1 := Lib.hid ht1
    clear hr1 ht1
    have hb0 : ((bn false : Nat) : Int) = 0 := rfl
    rw [hb0]
    clear hb0
    obtain ⟨c0, c1, c2, c3⟩ := HD1.out.cells
    obtain ⟨A, hA⟩ : ∃ A, 2 + ls.length = A := ⟨_, rfl⟩
    obtain ⟨k, hk⟩ : ∃ k, ls.length = k := ⟨_, rfl⟩
    have cA : ∃ x, w1.cell? ⟨b, A, none⟩ = some x := by obtain ⟨F, h, _⟩ := HD1.out; exact ⟨_, (h.cell (i := A) (by omega)).1⟩
    obtain ⟨xA, cA⟩ := cA
    have fA : w1.frozen? ⟨b, A, none⟩ = false := by obtain ⟨F, h, _⟩ := HD1.out; exact (h.cell (i := A) (by omega)).2
    have HF : Hid (∀ m x, ((w1.setCell ⟨b, A, none⟩ x).drewN m).cell? ⟨b, 1, none⟩ = some (.int .i64 (ls.length : Int)) ∧ ((w1.setCell ⟨b, A, none⟩ x).drewN m).frozen? ⟨b, 1, none⟩ = false) := Lib.hid (by
      intro m x
      obtain ⟨F, h, h2, _⟩ := HD1.out
      have h3 := ((h.set A x).drewN m).cell (i := 1) (by omega)
      rw [upd_ne _ _ (by omega), h2.read] at h3
      exact h3)
    have HP := Lib.hid (fun m X hX => HD1.out.push hl A hA m X hX now)
    have hkN : k < 258 := by omega
    have hki : (k : Int) < 258 := by omega
    have hA2 : 2 + k = A := by omega
    rw [hk] at c1 HF HP
    have HK := Lib.hid hk
    clear hk hA
    go_wp2_with fail
    go_region
    have d1 : ((w1.setCell ⟨b, A, none⟩ (.int .i64 now)).drew).cell? ⟨b, 1, none⟩ = some (.int .i64 (k : Int)) := (HF.out 1 _).1
    have d2 : ((w1.setCell ⟨b, A, none⟩ (.int .i64 now)).drew).frozen? ⟨b, 1, none⟩ = false := (HF.out 1 _).2
    have HPP : Hid (IsDel (((w1.setCell ⟨b, A, none⟩ (.int .i64 now)).drew).setCell ⟨b, 1, none⟩ (.int .i64 ((k : Int) + 1))) b N (ls ++ [now]) now false) := Lib.hid (HP.out 1 ((k : Int) + 1) (by omega))
    have HTT : Hid (Touch (· = b) w1 ((w1.setCell ⟨b, A, none⟩ (.int .i64 now)).drew)) := Lib.hid ((touch_cell (Touch.refl _ _)).trans (touch_drewN _ _ 1) (fun j hj => Or.inl hj))
    generalize ((w1.setCell ⟨b, A, none⟩ (.int .i64 now)).drew) = w5 at *
    clear c0 c1 c2 c3 cA fA hA2
    go_wp2_with fail
    go_ret
    rw [dstep_same t ls hn0]
    exact ⟨rfl, HPP.out, HR1.out.other (touch_cell HTT.out) (fun k hk => HNE.out k hk), touch_tr (touch_r HT1.out) (touch_l (touch_cell HTT.out))⟩
  | true :: x :: t, hql, hdd, HG =>
    have HG1 := HG (by simp only [List.length_cons] at hql; omega)
    rw [take_one] at HG1
    have HG1' := Lib.hid HG1
    have HLT : Hid (p + 1 + 1 ≤ 8 * (dr + l.length)) := Lib.hid (by simp only [List.length_cons] at hql; omega)
    have hdd2 : (bitsOf l).drop (p + 1 - 8 * dr) = x :: t := hdd
    have HDD := Lib.hid hdd2
    clear hD hR hC hne h1 h2 hql hdd HGS HG HG1 hq hdd2
    go_enter Tryz.func274, Tryz.ntmps274
    go_wp2_with fail
    refine HG1'.out.mono ?_
    rintro e w1 ⟨rfl, hr1, ht1⟩
    have HG2 := dget_any g3 g5 rb p v l dr sp (p + 1) 1 w1 (HC.out.other ht1 HC.out.2.2.1 HC.out.2.2.2) hr1 hs (by omega) HLT.out
    rw [HDD.out, take_one] at HG2
    have HG2' := Lib.hid HG2
    have HT1 := Lib.hid ht1
    have HD1 := Lib.hid (HD.out.other ht1 hbr.out)
    clear hr1 ht1 HG2
    have hb1 : ((bn true : Nat) : Int) = 1 := rfl
    rw [hb1]
    clear hb1
    go_wp2_with fail
    refine HG2'.out.mono ?_
    rintro e w2 ⟨rfl, hr2, ht2⟩
    have HR2 := Lib.hid hr2
    have HT2 := Lib.hid (touch_tr (touch_r (b := b) HT1.out) (touch_r ht2))
    have HD2 := Lib.hid (HD1.out.other ht2 hbr.out)
    have c2 := HD2.out.cells.2.2.1
    clear hr2 ht2 HT1 HD1
    have HM := Lib.hid (dstep_move x t ls hn0)
    cases x with
    | false =>
      have hb2 : ((bn false : Nat) : Int) = 0 := rfl
      rw [hb2]
      clear hb2
      obtain ⟨E, hE⟩ : ∃ E, eOf (okLen (now + 1)) = E := ⟨_, rfl⟩
      have HTL := Lib.hid (dtell_any b N ls now (now + 1) w2 HD2.out)
      have HE := Lib.hid hE
      rw [hE] at HTL
      clear hE
      go_wp2_with fail
      refine HTL.out.mono ?_
      rintro e w3 ⟨rfl, hd3, ht3⟩
      have K : Hid (StepD w w3 b rb N v l dr sp p (dstep (true :: false :: t) ls now false) (.returned (.int .i64 E))) := Lib.hid (by
        rw [HM.out, ← HE.out]
        exact ⟨rfl, hd3, HR2.out.other ht3 (fun k hk => HNE.out k hk), touch_tr HT2.out (touch_l ht3)⟩)
      clear hd3 ht3
      go_wp2_with fail
      go_ret
      exact K.out
    | true =>
      have hb2 : ((bn true : Nat) : Int) = 1 := rfl
      rw [hb2]
      clear hb2
      obtain ⟨E, hE⟩ : ∃ E, eOf (okLen (now - 1)) = E := ⟨_, rfl⟩
      have HTL := Lib.hid (dtell_any b N ls now (now - 1) w2 HD2.out)
      have HE := Lib.hid hE
      rw [hE] at HTL
      clear hE
      go_wp2_with fail
      refine HTL.out.mono ?_
      rintro e w3 ⟨rfl, hd3, ht3⟩
      have K : Hid (StepD w w3 b rb N v l dr sp p (dstep (true :: true :: t) ls now false) (.returned (.int .i64 E))) := Lib.hid (by
        rw [HM.out, ← HE.out]
        exact ⟨rfl, hd3, HR2.out.other ht3 (fun k hk => HNE.out k hk), touch_tr HT2.out (touch_l ht3)⟩)
      clear hd3 ht3
      go_wp2_with fail
      go_ret
      exact K.out
end Go.Proofs.YtojphcoghbiepaaGreatDoor
namespace Go.Proofs.YtojphcoghbiepaaGreatDoor
open Go.RowKit DelM BitM
set_option linter.unusedVariables false
set_option maxRecDepth 100000 in
set_option maxHeartbeats 2000000 in
theorem dstepc_any (b rb N : Nat) (ls : List Int) (now : Int) (bad : Bool) (v : Value) (l : List UInt8) (dr sp p : Nat) (w : World) (hD : IsDel w b N ls now bad) (hR : IsReader w rb v l dr sp p) (hs : dr + l.length ≤ 1099511627776)
    (hne : ∀ k, foot rb v k → k ≠ b) (hl : ls.length < N) (hn : 0 ≤ now ∧ now ≤ 20 ∨ bad = true) :
    Calls Tryz.prog 252 #[.pointer (some ⟨b, 0, none⟩), .pointer (some ⟨rb, 0, none⟩)] w fun e w' => StepD w w' b rb N v l dr sp p (dstep ((bitsOf l).drop (p - 8 * dr)) ls now bad) e := by
  have hB := (Below.refl w.heap.size w).alloc (Nat.le_refl _) (.cells #[.pointer (some ⟨rb, 0, none⟩)] 24)
  have hT := Touch.ofBelow (S := fun k => k = b ∨ k = rb) hB
  have hD1 := hD.other (Touch.ofBelow (S := fun _ => False) hB) (fun h => h)
  have hR1 := hR.other (Touch.ofBelow (S := fun _ => False) hB) (fun _ _ h => h)
  have hc1 : (w.alloc (.cells #[.pointer (some ⟨rb, 0, none⟩)] 24)).cell? ⟨w.heap.size, 0, none⟩ = some (.pointer (some ⟨rb, 0, none⟩)) := cell_of_row _ _ 0 _ _ _ (heap_alloc_new _ _)
  have HDN := Lib.hid (ddone_any b N ls now bad false _ hD1 ⟨fun e => (by cases e), fun e => by omega⟩)
  have HT := Lib.hid hT
  have HD1 := Lib.hid hD1
  have HR1 := Lib.hid hR1
  have HC1 := Lib.hid hc1
  have hp8 := hR.2.2.2.1
  have HNE := Lib.hid hne
  have hbl := Lib.hid hD.lt
  have hrl := Lib.hid (hR.lt rb (Or.inl rfl))
  have hs1 : Hid ((w.alloc (.cells #[.pointer (some ⟨rb, 0, none⟩)] 24)).heap.size = w.heap.size + 1) := Lib.hid (by simp)
  obtain ⟨G, hG⟩ : ∃ G, w.heap.size = G := ⟨_, rfl⟩
  have HGG := Lib.hid hG
  rw [hG] at hc1 HC1 hbl hrl hs1
  clear hB hT hD1 hR1 hD hR hne
  go_enter Tryz.func252, Tryz.ntmps252
  go_wp2_with fail
  refine HDN.out.mono ?_
  rintro e w2 ⟨rfl, m, hw2⟩
  have HT2 : Hid (Touch (fun k => k = b ∨ k = rb) w w2) := Lib.hid (by rw [hw2]; exact HT.out.trans (touch_drewN _ _ m) (fun j hj => Or.inl hj))
  have HD2 : Hid (IsDel w2 b N ls now bad) := Lib.hid (by rw [hw2]; exact HD1.out.other (touch_drewN (fun _ => False) _ m) (fun h => h))
  have HR2 : Hid (IsReader w2 rb v l dr sp p) := Lib.hid (by rw [hw2]; exact HR1.out.drewN m)
  have HC2 : w2.cell? ⟨G, 0, none⟩ = some (.pointer (some ⟨rb, 0, none⟩)) := by rw [hw2]; exact HC1.out
  have hs2 : Hid (w2.heap.size = G + 1) := Lib.hid (by rw [hw2]; exact hs1.out)
  clear hw2 hs1 HC1 HR1 HD1 HT HDN hc1
  try rw [hG]
  clear hG
  have c3 := HD2.out.cells.2.2.2
  cases bad with
  | true =>
    go_wp2_with fail
    go_ret
    rw [dstep_bad]
    exact ⟨rfl, HD2.out, HR2.out, HT2.out⟩
  | false =>
    have hn2 : 0 ≤ now ∧ now ≤ 20 := hn.elim id (fun h => by cases h)
    go_wp2_with fail
    refine (rat_any rb v l dr sp p w2 HR2.out).mono ?_
    rintro e w3 ⟨rfl, rfl⟩
    have hB3 := (Below.refl w2.heap.size w2).alloc (Nat.le_refl _) (.cells #[.int .i64 (p : Int)] 3)
    have HT3 : Hid (Touch (fun k => k = b ∨ k = rb) w (w2.alloc (.cells #[.int .i64 (p : Int)] 3))) := Lib.hid (HT2.out.trans (Touch.ofBelow (S := fun k => k = b ∨ k = rb) hB3) (fun j hj => Or.inl hj))
    have HD3 : Hid (IsDel (w2.alloc (.cells #[.int .i64 (p : Int)] 3)) b N ls now false) := Lib.hid (HD2.out.other (Touch.ofBelow (S := fun _ => False) hB3) (fun h => h))
    have HR3 : Hid (IsReader (w2.alloc (.cells #[.int .i64 (p : Int)] 3)) rb v l dr sp p) := Lib.hid (HR2.out.other (Touch.ofBelow (S := fun _ => False) hB3) (fun _ _ h => h))
    have HCA : Hid (Caught (w2.alloc (.cells #[.int .i64 (p : Int)] 3)) G (G + 1) rb p) := Lib.hid ⟨by
      have h1 := hB3.block G (by rw [hs2.out]; omega)
      rw [World.cell?_of_block (w := w2) (a := ⟨G, 0, none⟩) h1]; exact HC2, by
      have h2 := heap_alloc_new w2 (.cells #[.int .i64 (p : Int)] 3)
      rw [hs2.out] at h2
      exact cell_of_row _ _ 0 _ _ _ h2, by have := hrl.out; omega, by have := hrl.out; omega⟩
    have c4 := HD3.out.cells.2.2.1
    have hsz := hs2.out
    clear hB3 HC2 c3
    by_cases h0 : now = 0
    · subst h0
      have HF := Lib.hid (first_any b rb G (G + 1) N ls v l dr sp p _ HD3.out HR3.out HCA.out hs HNE.out)
      go_wp2_with fail
      try rw [hsz]
      refine HF.out.mono ?_
      rintro e w5 ⟨rfl, k1, k2, k3⟩
      have K : Hid (StepD w w5 b rb N v l dr sp p (dstep ((bitsOf l).drop (p - 8 * dr)) ls 0 false) (.returned (.int .i64 (dstep ((bitsOf l).drop (p - 8 * dr)) ls 0 false).err))) := Lib.hid ⟨rfl, k1, k2, touch_tr HT3.out k3⟩
      clear k1 k2 k3
      generalize ho : dstep ((bitsOf l).drop (p - 8 * dr)) ls 0 false = o at *
      have HO := Lib.hid ho
      clear ho
      go_wp2_with fail
      go_ret
      rw [HO.out]
      exact K.out
    · have h0b : (now == 0) = false := by rw [beq_eq_false_iff_ne]; exact h0
      have HF := Lib.hid (next_any11 b rb G (G + 1) N ls now v l dr sp p _ HD3.out HR3.out HCA.out hs HNE.out hl (by omega) ⟨by have := hbl.out; omega, by have := hbl.out; omega⟩)
      go_wp2_with fail
      try rw [hsz]
      refine HF.out.mono ?_
      rintro e w5 ⟨rfl, k1, k2, k3⟩
      have K : Hid (StepD w w5 b rb N v l dr sp p (dstep ((bitsOf l).drop (p - 8 * dr)) ls now false) (.returned (.int .i64 (dstep ((bitsOf l).drop (p - 8 * dr)) ls now false).err))) := Lib.hid ⟨rfl, k1, k2, touch_tr HT3.out k3⟩
      clear k1 k2 k3
      generalize ho : dstep ((bitsOf l).drop (p - 8 * dr)) ls now false = o at *
      have HO := Lib.hid ho
      clear ho
      go_wp2_with fail
      go_ret
      rw [HO.out]
      exact K.out
/-- What Read tells of bits, and how far the reader went on. -/
def RdP (Q : List Bool) (N : Nat) (ls : List Int) (err : Int) (used : Nat) : Prop :=
  match rd Q N with
  | .short => ls = [] ∧ err = 3 ∧ used = 0
  | .table => ls = [] ∧ err = 22 ∧ used = 0
  | .ok l n => ls = l ∧ err = 0 ∧ used = n
theorem RdP.short {Q : List Bool} {N : Nat} (h : rd Q N = .short) : RdP Q N [] 3 0 := by unfold RdP; rw [h]; exact ⟨rfl, rfl, rfl⟩
theorem RdP.table {Q : List Bool} {N : Nat} (h : rd Q N = .table) : RdP Q N [] 22 0 := by unfold RdP; rw [h]; exact ⟨rfl, rfl, rfl⟩
theorem RdP.ok {Q : List Bool} {N : Nat} {l : List Int} {n : Nat} (h : rd Q N = .ok l n) : RdP Q N l 0 n := by unfold RdP; rw [h]; exact ⟨rfl, rfl, rfl⟩
end Go.Proofs.YtojphcoghbiepaaGreatDoor
namespace Go.Proofs.YtojphcoghbiepaaGreatDoor
open Go.RowKit BitM HufM CanM CodM PkM
set_option linter.unusedVariables false
theorem codsz_any (n : Int) (r : Bool) (w : World) (hr : r = true ↔ 3 ≤ n ∧ n ≤ 258) : Calls Tryz.prog 59 #[.int .i64 n] w fun e w' => e = .returned (.bool r) ∧ w' = w := by
  by_cases h1 : 3 ≤ n
  · by_cases h2 : n ≤ 258
    · obtain rfl : r = true := hr.2 ⟨h1, h2⟩
      clear hr
      go_enter Tryz.func59, Tryz.ntmps59
      go_wp2_with fail
      go_ret
      exact ⟨rfl, rfl⟩
    · obtain rfl : r = false := by rw [Bool.eq_false_iff]; intro h; exact h2 (hr.1 h).2
      clear hr
      go_enter Tryz.func59, Tryz.ntmps59
      go_wp2_with fail
      go_ret
      exact ⟨rfl, rfl⟩
  · obtain rfl : r = false := by rw [Bool.eq_false_iff]; intro h; exact h1 (hr.1 h).1
    clear hr
    go_enter Tryz.func59, Tryz.ntmps59
    go_wp2_with fail
    go_ret
    exact ⟨rfl, rfl⟩
/-! ### A row of codes -/
def ptr (b : Nat) : Value := .pointer (some ⟨b, 0, none⟩)
def OwnP (w : World) (base : Nat) (v : Value) (bs : List Nat) : Prop := w.ownsRow base 148 1 v bs.length (bs.map ptr)
theorem OwnP.nil (w : World) (base : Nat) : OwnP w base (.slice none 0 0) [] := World.ownsRow_nil _ _ _ _
theorem OwnP.slice {w : World} {base : Nat} {v : Value} {bs : List Nat} (h : OwnP w base v bs) : ∃ a cap, v = .slice a bs.length cap := slice_of_own h
theorem OwnP.same {w w' : World} {base : Nat} {v : Value} {bs : List Nat} (h : OwnP w base v bs) (he : ∀ k, v.ownBlock = some k → w'.heap[k]? = w.heap[k]?) : OwnP w' base v bs := ownsRow_other h he
theorem OwnP.lt {w : World} {base : Nat} {v : Value} {bs : List Nat} (h : OwnP w base v bs) : ∀ k, v.ownBlock = some k → base ≤ k ∧ k < w.heap.size := World.ownsRow.lt h
theorem OwnP.cell {w : World} {base : Nat} {v : Value} {bs : List Nat} (h : OwnP w base v bs) {i : Nat} (hi : i < bs.length) : ∃ g cap, v = .slice (some ⟨g, 0, none⟩) bs.length cap ∧ w.cell? ⟨g, i, none⟩ = some (ptr (bs.getD i 0)) := by
  rcases h.2 with ⟨rfl, h0⟩ | ⟨g, cap, cur, rfl, _, hg, _⟩
  · omega
  · refine ⟨g, cap, rfl, ?_⟩
    have h2 := World.ownsRow.cells h (g := g) rfl i (ptr (bs.getD i 0)) (by rw [List.getElem?_map, List.getElem?_eq_getElem hi, List.getD_eq_getElem?_getD, List.getElem?_eq_getElem hi]; rfl)
    rw [Addr.add_lit, Nat.zero_add] at h2
    exact h2
theorem info_pc : (Tryz.prog.info? 148).map (fun i => (i.zero, i.size, i.bytes)) = some (some (.pointer none), 1, 8) := by kernel_rfl
set_option maxHeartbeats 400000 in
theorem push_pc {ops : Array Oper} {rest : List Oper} {o : Oper} {a : Act} {Q : Exit → Act → World → Prop} (W : World) (hgd : o.guard = none) (s x : Operand)
    (ho : o.op = .call { callee := .builtin .append, args := #[s, x], argTypes := #[99, 99] })
    (base : Nat) (v : Value) (bs : List Nat) (c : Nat) (hown : OwnP W base v bs) (hs : a.eval s = v) (hx : a.eval x = .slice (some ⟨W.heap.size, 0, none⟩) 1 1)
    (hlen : bs.length + 1 ≤ 1000000) (hb : base ≤ W.heap.size)
    (h : ∀ v' w', OwnP w' base v' (bs ++ [c]) → Below base W w' → (∀ k, k < W.heap.size → v.ownBlock ≠ some k → w'.heap[k]? = W.heap[k]?) → (∀ k, v'.ownBlock = some k → v.ownBlock = some k ∨ W.heap.size ≤ k) → wpList Tryz.prog ops Q rest (a.put o.dst v') w') :
    wpList Tryz.prog ops Q (o :: rest) a (W.alloc (.cells #[.pointer (some ⟨c, 0, none⟩)] 148)) := by
  obtain ⟨i0, hi, hz0, hz1, hz2⟩ := info_parts info_pc
  refine wpList_append_own2 hgd s x 99 ho base 148 i0 (.pointer none) 1 8 Tryz.underlying99 hi hz0 hz1 hz2 rfl (by decide) v bs.length (bs.map ptr) (World.ownsRow.alloc hown _) hs ⟨W.heap.size, 0, none⟩ 1 1 [ptr c] hx rfl ?_ ?_ ?_ ?_ ?_ ?_
  · exact news_new _ _ _ _ rfl
  · intro u hu; simp at hu; subst hu; rfl
  · unfold maxLen; omega
  · omega
  · simp; omega
  · intro v' w' hown' hg hv
    refine h v' w' ?_ (Below.grown ((Below.refl base W).alloc hb _) hg (by simp; omega) (fun j hj => (World.ownsRow.lt hown j hj).1)) (fun k hk hne => (hg.block k (by simp; omega) (fun e => hne e.symm)).trans (alloc_old hk)) (fun k hk => (hv k hk).imp id (fun h => by simp at h; omega))
    unfold OwnP
    rw [List.length_append, List.map_append]
    exact hown'
/-- A row of codes: its blocks are told by Pb. -/
def Codes (w : World) (Pb : Nat → Prop) (cu : Value) (gs : List (List Int)) : Prop :=
  ∃ (bs : List Nat) (base : Nat), OwnP w base cu bs ∧ bs.length = gs.length ∧ base ≤ w.heap.size ∧ (∀ k, cu.ownBlock = some k → Pb k) ∧ ∀ i, i < gs.length → IsCode w (bs.getD i 0) (gs.getD i []) ∧ Pb (bs.getD i 0) ∧ cu.ownBlock ≠ some (bs.getD i 0) ∧ bs.getD i 0 < w.heap.size
theorem Codes.nil (w : World) (Pb : Nat → Prop) : Codes w Pb (.slice none 0 0) [] := ⟨[], 0, OwnP.nil _ _, rfl, Nat.zero_le _, fun k hk => (by cases hk), fun i hi => absurd hi (Nat.not_lt_zero _)⟩
theorem Codes.other {w w' : World} {Pb S : Nat → Prop} {cu : Value} {gs : List (List Int)} (h : Codes w Pb cu gs) (ht : Touch S w w') (hS : ∀ k, Pb k → ¬ S k) : Codes w' Pb cu gs := by
  obtain ⟨bs, base, h1, h2, h3, h4, h5⟩ := h
  refine ⟨bs, base, h1.same (fun k hk => ht.block k (h1.lt k hk).2 (hS k (h4 k hk))), h2, Nat.le_trans h3 ht.size, h4, fun i hi => ?_⟩
  obtain ⟨a1, a2, a3, a4⟩ := h5 i hi
  exact ⟨a1.other ht (hS _ a2), a2, a3, Nat.lt_of_lt_of_le a4 ht.size⟩
theorem Codes.mono {w : World} {Pb Pc : Nat → Prop} {cu : Value} {gs : List (List Int)} (h : Codes w Pb cu gs) (hP : ∀ k, Pb k → Pc k) : Codes w Pc cu gs := by
  obtain ⟨bs, base, h1, h2, h3, h4, h5⟩ := h
  exact ⟨bs, base, h1, h2, h3, fun k hk => hP k (h4 k hk), fun i hi => ⟨(h5 i hi).1, hP _ (h5 i hi).2.1, (h5 i hi).2.2⟩⟩
theorem Codes.slice {w : World} {Pb : Nat → Prop} {cu : Value} {gs : List (List Int)} (h : Codes w Pb cu gs) : ∃ a cap, cu = .slice a gs.length cap := by
  obtain ⟨bs, base, h1, h2, _⟩ := h
  obtain ⟨a, c, e⟩ := h1.slice
  exact ⟨a, c, by rw [e, h2]⟩
/-- A row of numbers whose block is told by Pb. -/
def RowP (w : World) (Pb : Nat → Prop) (pu : Value) (zs : List Int) : Prop := IsInts w pu zs ∧ ∀ k, pu.ownBlock = some k → Pb k
theorem RowP.other {w w' : World} {Pb S : Nat → Prop} {pu : Value} {zs : List Int} (h : RowP w Pb pu zs) (ht : Touch S w w') (hS : ∀ k, Pb k → ¬ S k) : RowP w' Pb pu zs := ⟨h.1.other ht (fun k hk => hS k (h.2 k hk)), h.2⟩
theorem RowP.mono {w : World} {Pb Pc : Nat → Prop} {pu : Value} {zs : List Int} (h : RowP w Pb pu zs) (hP : ∀ k, Pb k → Pc k) : RowP w Pc pu zs := ⟨h.1, fun k hk => hP k (h.2 k hk)⟩
/-! ### The reader's object -/
/-- What the reader's cells are. -/
structure CC (F : Nat → Value) (N : Nat) (nx : Value) (wr : Int) (hd : Value) (T : Nat) (pu tb cu : Value) (held cnt : Nat) (dn : Bool) : Prop where
  c_n0 : F 0 = .int .i64 (N : Int)
  c_nx : F 1 = nx
  c_wr : F 2 = .int .i64 wr
  c_hd : F 3 = hd
  c_T : F 4 = .int .i64 (T : Int)
  c_pu : F 5 = pu
  c_tb : F 6 = tb
  c_cu : F 7 = cu
  c_held : F 8 = .int .i64 (held : Int)
  c_cnt : F 9 = .int .i64 (cnt : Int)
  c_dn : F 10 = .bool dn
theorem CC.s_nx {F : Nat → Value} {N : Nat} {nx : Value} {wr : Int} {hd : Value} {T : Nat} {pu tb cu : Value} {held cnt : Nat} {dn : Bool} (h : CC F N nx wr hd T pu tb cu held cnt dn) (x : Value) : CC (upd F 1 x) N x wr hd T pu tb cu held cnt dn := ⟨(upd_ne _ _ (by omega)).trans h.c_n0, upd_same _ _ _, (upd_ne _ _ (by omega)).trans h.c_wr, (upd_ne _ _ (by omega)).trans h.c_hd, (upd_ne _ _ (by omega)).trans h.c_T, (upd_ne _ _ (by omega)).trans h.c_pu, (upd_ne _ _ (by omega)).trans h.c_tb, (upd_ne _ _ (by omega)).trans h.c_cu, (upd_ne _ _ (by omega)).trans h.c_held, (upd_ne _ _ (by omega)).trans h.c_cnt, (upd_ne _ _ (by omega)).trans h.c_dn⟩
theorem CC.s_wr {F : Nat → Value} {N : Nat} {nx : Value} {wr : Int} {hd : Value} {T : Nat} {pu tb cu : Value} {held cnt : Nat} {dn : Bool} (h : CC F N nx wr hd T pu tb cu held cnt dn) (x : Int) : CC (upd F 2 (.int .i64 x)) N nx x hd T pu tb cu held cnt dn := ⟨(upd_ne _ _ (by omega)).trans h.c_n0, (upd_ne _ _ (by omega)).trans h.c_nx, upd_same _ _ _, (upd_ne _ _ (by omega)).trans h.c_hd, (upd_ne _ _ (by omega)).trans h.c_T, (upd_ne _ _ (by omega)).trans h.c_pu, (upd_ne _ _ (by omega)).trans h.c_tb, (upd_ne _ _ (by omega)).trans h.c_cu, (upd_ne _ _ (by omega)).trans h.c_held, (upd_ne _ _ (by omega)).trans h.c_cnt, (upd_ne _ _ (by omega)).trans h.c_dn⟩
theorem CC.s_hd {F : Nat → Value} {N : Nat} {nx : Value} {wr : Int} {hd : Value} {T : Nat} {pu tb cu : Value} {held cnt : Nat} {dn : Bool} (h : CC F N nx wr hd T pu tb cu held cnt dn) (x : Value) : CC (upd F 3 x) N nx wr x T pu tb cu held cnt dn := ⟨(upd_ne _ _ (by omega)).trans h.c_n0, (upd_ne _ _ (by omega)).trans h.c_nx, (upd_ne _ _ (by omega)).trans h.c_wr, upd_same _ _ _, (upd_ne _ _ (by omega)).trans h.c_T, (upd_ne _ _ (by omega)).trans h.c_pu, (upd_ne _ _ (by omega)).trans h.c_tb, (upd_ne _ _ (by omega)).trans h.c_cu, (upd_ne _ _ (by omega)).trans h.c_held, (upd_ne _ _ (by omega)).trans h.c_cnt, (upd_ne _ _ (by omega)).trans h.c_dn⟩
theorem CC.s_T {F : Nat → Value} {N : Nat} {nx : Value} {wr : Int} {hd : Value} {T : Nat} {pu tb cu : Value} {held cnt : Nat} {dn : Bool} (h : CC F N nx wr hd T pu tb cu held cnt dn) (x : Nat) : CC (upd F 4 (.int .i64 (x : Int))) N nx wr hd x pu tb cu held cnt dn := ⟨(upd_ne _ _ (by omega)).trans h.c_n0, (upd_ne _ _ (by omega)).trans h.c_nx, (upd_ne _ _ (by omega)).trans h.c_wr, (upd_ne _ _ (by omega)).trans h.c_hd, upd_same _ _ _, (upd_ne _ _ (by omega)).trans h.c_pu, (upd_ne _ _ (by omega)).trans h.c_tb, (upd_ne _ _ (by omega)).trans h.c_cu, (upd_ne _ _ (by omega)).trans h.c_held, (upd_ne _ _ (by omega)).trans h.c_cnt, (upd_ne _ _ (by omega)).trans h.c_dn⟩
theorem CC.s_pu {F : Nat → Value} {N : Nat} {nx : Value} {wr : Int} {hd : Value} {T : Nat} {pu tb cu : Value} {held cnt : Nat} {dn : Bool} (h : CC F N nx wr hd T pu tb cu held cnt dn) (x : Value) : CC (upd F 5 x) N nx wr hd T x tb cu held cnt dn := ⟨(upd_ne _ _ (by omega)).trans h.c_n0, (upd_ne _ _ (by omega)).trans h.c_nx, (upd_ne _ _ (by omega)).trans h.c_wr, (upd_ne _ _ (by omega)).trans h.c_hd, (upd_ne _ _ (by omega)).trans h.c_T, upd_same _ _ _, (upd_ne _ _ (by omega)).trans h.c_tb, (upd_ne _ _ (by omega)).trans h.c_cu, (upd_ne _ _ (by omega)).trans h.c_held, (upd_ne _ _ (by omega)).trans h.c_cnt, (upd_ne _ _ (by omega)).trans h.c_dn⟩
theorem CC.s_tb {F : Nat → Value} {N : Nat} {nx : Value} {wr : Int} {hd : Value} {T : Nat} {pu tb cu : Value} {held cnt : Nat} {dn : Bool} (h : CC F N nx wr hd T pu tb cu held cnt dn) (x : Value) : CC (upd F 6 x) N nx wr hd T pu x cu held cnt dn := ⟨(upd_ne _ _ (by omega)).trans h.c_n0, (upd_ne _ _ (by omega)).trans h.c_nx, (upd_ne _ _ (by omega)).trans h.c_wr, (upd_ne _ _ (by omega)).trans h.c_hd, (upd_ne _ _ (by omega)).trans h.c_T, (upd_ne _ _ (by omega)).trans h.c_pu, upd_same _ _ _, (upd_ne _ _ (by omega)).trans h.c_cu, (upd_ne _ _ (by omega)).trans h.c_held, (upd_ne _ _ (by omega)).trans h.c_cnt, (upd_ne _ _ (by omega)).trans h.c_dn⟩
theorem CC.s_cu {F : Nat → Value} {N : Nat} {nx : Value} {wr : Int} {hd : Value} {T : Nat} {pu tb cu : Value} {held cnt : Nat} {dn : Bool} (h : CC F N nx wr hd T pu tb cu held cnt dn) (x : Value) : CC (upd F 7 x) N nx wr hd T pu tb x held cnt dn := ⟨(upd_ne _ _ (by omega)).trans h.c_n0, (upd_ne _ _ (by omega)).trans h.c_nx, (upd_ne _ _ (by omega)).trans h.c_wr, (upd_ne _ _ (by omega)).trans h.c_hd, (upd_ne _ _ (by omega)).trans h.c_T, (upd_ne _ _ (by omega)).trans h.c_pu, (upd_ne _ _ (by omega)).trans h.c_tb, upd_same _ _ _, (upd_ne _ _ (by omega)).trans h.c_held, (upd_ne _ _ (by omega)).trans h.c_cnt, (upd_ne _ _ (by omega)).trans h.c_dn⟩
theorem CC.s_held {F : Nat → Value} {N : Nat} {nx : Value} {wr : Int} {hd : Value} {T : Nat} {pu tb cu : Value} {held cnt : Nat} {dn : Bool} (h : CC F N nx wr hd T pu tb cu held cnt dn) (x : Nat) : CC (upd F 8 (.int .i64 (x : Int))) N nx wr hd T pu tb cu x cnt dn := ⟨(upd_ne _ _ (by omega)).trans h.c_n0, (upd_ne _ _ (by omega)).trans h.c_nx, (upd_ne _ _ (by omega)).trans h.c_wr, (upd_ne _ _ (by omega)).trans h.c_hd, (upd_ne _ _ (by omega)).trans h.c_T, (upd_ne _ _ (by omega)).trans h.c_pu, (upd_ne _ _ (by omega)).trans h.c_tb, (upd_ne _ _ (by omega)).trans h.c_cu, upd_same _ _ _, (upd_ne _ _ (by omega)).trans h.c_cnt, (upd_ne _ _ (by omega)).trans h.c_dn⟩
theorem CC.s_cnt {F : Nat → Value} {N : Nat} {nx : Value} {wr : Int} {hd : Value} {T : Nat} {pu tb cu : Value} {held cnt : Nat} {dn : Bool} (h : CC F N nx wr hd T pu tb cu held cnt dn) (x : Nat) : CC (upd F 9 (.int .i64 (x : Int))) N nx wr hd T pu tb cu held x dn := ⟨(upd_ne _ _ (by omega)).trans h.c_n0, (upd_ne _ _ (by omega)).trans h.c_nx, (upd_ne _ _ (by omega)).trans h.c_wr, (upd_ne _ _ (by omega)).trans h.c_hd, (upd_ne _ _ (by omega)).trans h.c_T, (upd_ne _ _ (by omega)).trans h.c_pu, (upd_ne _ _ (by omega)).trans h.c_tb, (upd_ne _ _ (by omega)).trans h.c_cu, (upd_ne _ _ (by omega)).trans h.c_held, upd_same _ _ _, (upd_ne _ _ (by omega)).trans h.c_dn⟩
theorem CC.s_dn {F : Nat → Value} {N : Nat} {nx : Value} {wr : Int} {hd : Value} {T : Nat} {pu tb cu : Value} {held cnt : Nat} {dn : Bool} (h : CC F N nx wr hd T pu tb cu held cnt dn) (x : Bool) : CC (upd F 10 (.bool x)) N nx wr hd T pu tb cu held cnt x := ⟨(upd_ne _ _ (by omega)).trans h.c_n0, (upd_ne _ _ (by omega)).trans h.c_nx, (upd_ne _ _ (by omega)).trans h.c_wr, (upd_ne _ _ (by omega)).trans h.c_hd, (upd_ne _ _ (by omega)).trans h.c_T, (upd_ne _ _ (by omega)).trans h.c_pu, (upd_ne _ _ (by omega)).trans h.c_tb, (upd_ne _ _ (by omega)).trans h.c_cu, (upd_ne _ _ (by omega)).trans h.c_held, (upd_ne _ _ (by omega)).trans h.c_cnt, upd_same _ _ _⟩
def mth (f b : Nat) : Value := .func (.func f) #[.pointer (some ⟨b, 0, none⟩)] #[]
def nils : Value := .slice none 0 0
/-- Block b is a reader of N symbols in a state; all its blocks are told by O. -/
def IsCR (w : World) (b N : Nat) (O : Nat → Prop) : CSt → Prop
  | .fields => ∃ F h pv o, ObjF 11 101 w b F ∧ CC F N (mth 61 b) 0 (ptr h) 0 nils (.pointer none) nils 0 0 false ∧ IsPk w h pv 0 0 [] o false ∧ O b ∧ ∀ k, foot h pv k → O k ∧ k ≠ b
  | .pick t n ps o => ∃ F h pv, ObjF 11 101 w b F ∧ CC F N (mth 111 b) 0 (ptr h) 0 nils (.pointer none) nils ps.length 0 false ∧ IsPk w h pv t n ps o false ∧ O b ∧ ∀ k, foot h pv k → O k ∧ k ≠ b
  | .len t ps gs ls now => ∃ F Pb d pu cu, ObjF 11 101 w b F ∧ CC F N (mth 227 b) 0 (.pointer none) t pu (ptr d) cu (ps.length + gs.length * N) 0 false ∧ IsDel w d N ls now false ∧ RowP w Pb pu (toI ps) ∧ Codes w Pb cu gs ∧ (∀ k, cu.ownBlock = some k → pu.ownBlock ≠ some k) ∧ O b ∧ O d ∧ d ≠ b ∧ ¬ Pb b ∧ ¬ Pb d ∧ ∀ k, Pb k → O k ∧ k < w.heap.size
  | .sym t ps gs cnt done => ∃ F Pb pu cu, ObjF 11 101 w b F ∧ CC F N (mth 225 b) 0 (.pointer none) t pu (.pointer none) cu (ps.length + gs.length * N) cnt done ∧ RowP w Pb pu (toI ps) ∧ Codes w Pb cu gs ∧ O b ∧ ¬ Pb b ∧ ∀ k, Pb k → O k ∧ k < w.heap.size
/-- What the cells say that are asked in any state. -/
def CellsC (w : World) (b : Nat) (s : CSt) (N : Nat) : Prop :=
  (∃ f, w.cell? ⟨b, 1, none⟩ = some (.func (.func f) #[.pointer (some ⟨b, 0, none⟩)] #[])) ∧ w.cell? ⟨b, 2, none⟩ = some (.int .i64 0) ∧ w.cell? ⟨b, 8, none⟩ = some (.int .i64 ((s.held N : Nat) : Int)) ∧ w.cell? ⟨b, 9, none⟩ = some (.int .i64 (s.cnt : Int)) ∧ w.cell? ⟨b, 10, none⟩ = some (.bool s.done)
theorem cc_cells {w : World} {b : Nat} {F : Nat → Value} {N : Nat} {nx : Value} {wr : Int} {hd : Value} {T : Nat} {pu tb cu : Value} {held cnt : Nat} {dn : Bool} (h : ObjF 11 101 w b F) (c : CC F N nx wr hd T pu tb cu held cnt dn) :
    w.cell? ⟨b, 0, none⟩ = some (.int .i64 (N : Int)) ∧ w.cell? ⟨b, 1, none⟩ = some nx ∧ w.cell? ⟨b, 2, none⟩ = some (.int .i64 wr) ∧ w.cell? ⟨b, 3, none⟩ = some hd ∧ w.cell? ⟨b, 4, none⟩ = some (.int .i64 (T : Int)) ∧ w.cell? ⟨b, 5, none⟩ = some pu ∧ w.cell? ⟨b, 6, none⟩ = some tb ∧ w.cell? ⟨b, 7, none⟩ = some cu ∧ w.cell? ⟨b, 8, none⟩ = some (.int .i64 (held : Int)) ∧ w.cell? ⟨b, 9, none⟩ = some (.int .i64 (cnt : Int)) ∧ w.cell? ⟨b, 10, none⟩ = some (.bool dn) := by
  refine ⟨?_, ?_, ?_, ?_, ?_, ?_, ?_, ?_, ?_, ?_, ?_⟩
  · rw [(h.cell (i := 0) (by omega)).1, c.c_n0]
  · rw [(h.cell (i := 1) (by omega)).1, c.c_nx]
  · rw [(h.cell (i := 2) (by omega)).1, c.c_wr]
  · rw [(h.cell (i := 3) (by omega)).1, c.c_hd]
  · rw [(h.cell (i := 4) (by omega)).1, c.c_T]
  · rw [(h.cell (i := 5) (by omega)).1, c.c_pu]
  · rw [(h.cell (i := 6) (by omega)).1, c.c_tb]
  · rw [(h.cell (i := 7) (by omega)).1, c.c_cu]
  · rw [(h.cell (i := 8) (by omega)).1, c.c_held]
  · rw [(h.cell (i := 9) (by omega)).1, c.c_cnt]
  · rw [(h.cell (i := 10) (by omega)).1, c.c_dn]
theorem IsCR.cells {w : World} {b N : Nat} {O : Nat → Prop} {s : CSt} (h : IsCR w b N O s) : CellsC w b s N := by
  cases s with
  | fields =>
    obtain ⟨F, g, pv, o, h1, h2, _⟩ := h
    obtain ⟨_, a1, a2, _, _, _, _, _, a8, a9, a10⟩ := cc_cells h1 h2
    exact ⟨⟨_, a1⟩, a2, a8, a9, a10⟩
  | pick t n ps o =>
    obtain ⟨F, g, pv, h1, h2, _⟩ := h
    obtain ⟨_, a1, a2, _, _, _, _, _, a8, a9, a10⟩ := cc_cells h1 h2
    exact ⟨⟨_, a1⟩, a2, a8, a9, a10⟩
  | len t ps gs ls now =>
    obtain ⟨F, Pb, d, pu, cu, h1, h2, _⟩ := h
    obtain ⟨_, a1, a2, _, _, _, _, _, a8, a9, a10⟩ := cc_cells h1 h2
    exact ⟨⟨_, a1⟩, a2, a8, a9, a10⟩
  | sym t ps gs cnt done =>
    obtain ⟨F, Pb, pu, cu, h1, h2, _⟩ := h
    obtain ⟨_, a1, a2, _, _, _, _, _, a8, a9, a10⟩ := cc_cells h1 h2
    exact ⟨⟨_, a1⟩, a2, a8, a9, a10⟩
theorem IsCR.other {w w' : World} {b N : Nat} {O S : Nat → Prop} {s : CSt} (h : IsCR w b N O s) (ht : Touch S w w') (hS : ∀ k, O k → ¬ S k) : IsCR w' b N O s := by
  cases s with
  | fields =>
    obtain ⟨F, g, pv, o, h1, h2, h3, h4, h5⟩ := h
    exact ⟨F, g, pv, o, h1.other ht (hS b h4), h2, h3.other ht (fun k hk => hS k (h5 k hk).1), h4, h5⟩
  | pick t n ps o =>
    obtain ⟨F, g, pv, h1, h2, h3, h4, h5⟩ := h
    exact ⟨F, g, pv, h1.other ht (hS b h4), h2, h3.other ht (fun k hk => hS k (h5 k hk).1), h4, h5⟩
  | len t ps gs ls now =>
    obtain ⟨F, Pb, d, pu, cu, h1, h2, h3, h4, h5, h6, h7, h8, h9, h10, h11, h12⟩ := h
    exact ⟨F, Pb, d, pu, cu, h1.other ht (hS b h7), h2, h3.other ht (hS d h8), h4.other ht (fun k hk => hS k (h12 k hk).1), h5.other ht (fun k hk => hS k (h12 k hk).1), h6, h7, h8, h9, h10, h11, fun k hk => ⟨(h12 k hk).1, Nat.lt_of_lt_of_le (h12 k hk).2 ht.size⟩⟩
  | sym t ps gs cnt done =>
    obtain ⟨F, Pb, pu, cu, h1, h2, h4, h5, h7, h10, h12⟩ := h
    exact ⟨F, Pb, pu, cu, h1.other ht (hS b h7), h2, h4.other ht (fun k hk => hS k (h12 k hk).1), h5.other ht (fun k hk => hS k (h12 k hk).1), h7, h10, fun k hk => ⟨(h12 k hk).1, Nat.lt_of_lt_of_le (h12 k hk).2 ht.size⟩⟩
theorem IsCR.below {w w' : World} {b N : Nat} {O : Nat → Prop} {s : CSt} (h : IsCR w b N O s) (hb : Below w.heap.size w w') : IsCR w' b N O s := h.other (Touch.ofBelow (S := fun _ => False) hb) (fun _ _ h => h)
theorem IsCR.drewN {w : World} {b N : Nat} {O : Nat → Prop} {s : CSt} (h : IsCR w b N O s) (m : Nat) : IsCR (w.drewN m) b N O s := h.other (touch_drewN (fun _ => False) _ m) (fun _ _ h => h)
/-- The reader's object behind an error. -/
def IsCB (w : World) (b : Nat) (er : Int) (O : Nat → Prop) : Prop := ∃ F f N hd T pu tb cu held cnt, ObjF 11 101 w b F ∧ CC F N (mth f b) er hd T pu tb cu held cnt false ∧ O b
theorem IsCB.other {w w' : World} {b : Nat} {er : Int} {O S : Nat → Prop} (h : IsCB w b er O) (ht : Touch S w w') (hS : ∀ k, O k → ¬ S k) : IsCB w' b er O := by
  obtain ⟨F, f, N, hd, T, pu, tb, cu, held, cnt, h1, h2, h3⟩ := h
  exact ⟨F, f, N, hd, T, pu, tb, cu, held, cnt, h1.other ht (hS b h3), h2, h3⟩
theorem IsCB.below {w w' : World} {b : Nat} {er : Int} {O : Nat → Prop} (h : IsCB w b er O) (hb : Below w.heap.size w w') : IsCB w' b er O := h.other (Touch.ofBelow (S := fun _ => False) hb) (fun _ _ h => h)
theorem IsCB.drewN {w : World} {b : Nat} {er : Int} {O : Nat → Prop} (h : IsCB w b er O) (m : Nat) : IsCB (w.drewN m) b er O := h.other (touch_drewN (fun _ => False) _ m) (fun _ _ h => h)
/-! ### Done, Count, Held -/
set_option maxHeartbeats 400000 in
theorem cdone_any (b : Nat) (dn : Bool) (w : World) (h : w.cell? ⟨b, 10, none⟩ = some (.bool dn)) : Calls Tryz.prog 22 #[.pointer (some ⟨b, 0, none⟩)] w fun e w' => e = .returned (.bool dn) ∧ w' = w := by
  go_enter Tryz.func22, Tryz.ntmps22
  go_wp2_with fail
  go_ret
  exact ⟨rfl, rfl⟩
set_option maxHeartbeats 400000 in
theorem ccount_any (b : Nat) (n : Int) (w : World) (h : w.cell? ⟨b, 9, none⟩ = some (.int .i64 n)) : Calls Tryz.prog 25 #[.pointer (some ⟨b, 0, none⟩)] w fun e w' => e = .returned (.int .i64 n) ∧ w' = w := by
  go_enter Tryz.func25, Tryz.ntmps25
  go_wp2_with fail
  go_ret
  exact ⟨rfl, rfl⟩
set_option maxHeartbeats 400000 in
theorem cheld_any (b : Nat) (n : Int) (w : World) (h : w.cell? ⟨b, 8, none⟩ = some (.int .i64 n)) : Calls Tryz.prog 24 #[.pointer (some ⟨b, 0, none⟩)] w fun e w' => e = .returned (.int .i64 n) ∧ w' = w := by
  go_enter Tryz.func24, Tryz.ntmps24
  go_wp2_with fail
  go_ret
  exact ⟨rfl, rfl⟩
/-! ### NewReader -/
def zero11 (x y : Value) (i : Nat) : Value := if i = 0 then x else if i = 1 then Value.nilFunc else if i = 3 then y else if i = 5 then .slice none 0 0 else if i = 6 then .pointer none else if i = 7 then .slice none 0 0 else if i = 10 then .bool false else .int .i64 0
set_option maxRecDepth 100000 in
theorem built11 (x : Int) (y : Option Addr) : Tryz.prog.built 101 [(0, .int .i64 x), (3, .pointer y)] = some (cellsF 11 (zero11 (.int .i64 x) (.pointer y))) := by kernel_rfl
theorem wpList_build_two {P : Program} {ops : Array Oper} {rest : List Oper} {o : Oper} {a : Act} {w : World} {Q : Exit → Act → World → Prop} (hg : o.guard = none) (t : TypeId) (n m : Nat) (y z : Operand) (ho : o.op = .build t #[(n, y), (m, z)]) (v u : Value) (hy : a.eval y = v) (hz : a.eval z = u) (Z : Array Value)
    (hb : P.built t [(n, v), (m, u)] = some Z) (h : wpList P ops Q rest (a.put o.dst (.agg Z)) w) : wpList P ops Q (o :: rest) a w := by
  subst hy hz
  refine wpList_build hg t #[(n, y), (m, z)] ho ?_ ?_
  · simp [hb]
  · simpa [hb] using h
set_option maxHeartbeats 1000000 in
theorem cnew_no (n : Int) (w : World) (h : n < 3 ∨ 258 < n) : Calls Tryz.prog 21 #[.int .i64 n] w fun e w' => e = .returned (.tuple #[.pointer none, .int .i64 1]) ∧ w' = w := by
  have HN := Lib.hid (codsz_any n false w ⟨fun e => (by cases e), fun e => by omega⟩)
  clear h
  go_enter Tryz.func21, Tryz.ntmps21
  go_wp2_with fail
  refine HN.out.mono ?_
  rintro e w' ⟨rfl, rfl⟩
  go_wp2_with fail
  go_ret2
  exact ⟨rfl, rfl⟩
set_option maxRecDepth 100000 in
set_option maxHeartbeats 1000000 in
theorem cnew_yes (N : Nat) (w : World) (h3 : 3 ≤ N) (h258 : N ≤ 258) :
    Calls Tryz.prog 21 #[.int .i64 (N : Int)] w fun e w' => ∃ b, e = .returned (.tuple #[.pointer (some ⟨b, 0, none⟩), .int .i64 0]) ∧ IsCR w' b N (fun k => w.heap.size ≤ k ∧ k < w'.heap.size) .fields ∧ Below w.heap.size w w' := by
  have HN := Lib.hid (codsz_any (N : Int) true w ⟨fun _ => by omega, fun _ => rfl⟩)
  go_enter Tryz.func21, Tryz.ntmps21
  go_wp2_with fail
  refine HN.out.mono ?_
  rintro e w' ⟨rfl, rfl⟩
  go_wp2_with fail
  refine (pnew_any w').mono ?_
  rintro e w1 ⟨rfl, hp1, hb1⟩
  have HP1 := Lib.hid hp1
  have HB1 := Lib.hid hb1
  have hb := built11 (N : Int) (some ⟨w'.heap.size, 0, none⟩)
  have HO : Hid (ObjF 11 101 (w1.alloc (.cells (cellsF 11 (zero11 (.int .i64 (N : Int)) (ptr w'.heap.size))) 101)) w1.heap.size (zero11 (.int .i64 (N : Int)) (ptr w'.heap.size))) := Lib.hid (heap_alloc_new w1 _)
  have HCC : Hid (CC (zero11 (.int .i64 (N : Int)) (ptr w'.heap.size)) N Value.nilFunc 0 (ptr w'.heap.size) 0 nils (.pointer none) nils 0 0 false) := Lib.hid ⟨rfl, rfl, rfl, rfl, rfl, rfl, rfl, rfl, rfl, rfl, rfl⟩
  have hB2 := (Below.refl w1.heap.size w1).alloc (Nat.le_refl _) (.cells (cellsF 11 (zero11 (.int .i64 (N : Int)) (ptr w'.heap.size))) 101)
  have HB2 := Lib.hid hB2
  obtain ⟨B, hB⟩ : ∃ B, w1.heap.size = B := ⟨_, rfl⟩
  have HBE := Lib.hid hB
  rw [hB] at HO
  have f1 := (HO.out.cell (i := 1) (by omega)).2
  have c1 : _ := (HO.out.cell (i := 1) (by omega)).1
  rw [HCC.out.c_nx] at c1
  change Tryz.prog.built 101 [(0, .int .i64 (N : Int)), (3, .pointer (some ⟨w'.heap.size, 0, none⟩))] = some (cellsF 11 (zero11 (.int .i64 (N : Int)) (ptr w'.heap.size))) at hb
  clear hp1 hb1 hB2
  generalize cellsF 11 (zero11 (.int .i64 (N : Int)) (ptr w'.heap.size)) = Z at *
  go_wp2_with (refine wpList_build_two rfl 101 0 3 _ _ rfl _ _ rfl rfl Z hb ?_)
  try simp only [hB]
  go_ret2
  have HSET : (w1.alloc (.cells Z 101)).setCell ⟨B, 1, none⟩ (mth 61 B) = w1.alloc (.cells (Z.setIfInBounds 1 (mth 61 B)) 101) := World.setCell_alloc_at Z _ B 1 _ HBE.out.symm
  have hs1 := HB1.out.size
  have hs2 := HB2.out.size
  have hl2 := HO.out.lt
  have hlp := HP1.out.lt
  have hT : Touch (· = B) (w1.alloc (.cells Z 101)) ((w1.alloc (.cells Z 101)).setCell ⟨B, 1, none⟩ (mth 61 B)) := touch_cell (Touch.refl _ _)
  have hne : ∀ k, foot w'.heap.size (.slice none 0 0) k → k < B := fun k hk => by have := hlp k hk; have := HBE.out; omega
  have key : IsCR ((w1.alloc (.cells Z 101)).setCell ⟨B, 1, none⟩ (mth 61 B)) B N (fun k => w'.heap.size ≤ k ∧ k < ((w1.alloc (.cells Z 101)).setCell ⟨B, 1, none⟩ (mth 61 B)).heap.size) .fields ∧ Below w'.heap.size w' ((w1.alloc (.cells Z 101)).setCell ⟨B, 1, none⟩ (mth 61 B)) := by
    refine ⟨⟨_, w'.heap.size, .slice none 0 0, _, HO.out.set 1 _, HCC.out.s_nx _, (HP1.out.below HB2.out).other hT (fun k hk e => by have h1 := hne k hk; have h2 : k = B := e; omega), ⟨by have := HBE.out; omega, Nat.lt_of_lt_of_le hl2 hT.size⟩, fun k hk => ?_⟩, ?_⟩
    · have h1 := hne k hk
      have h2 := hlp k hk
      exact ⟨⟨h2.1, by have := hT.size; have := HBE.out; omega⟩, by omega⟩
    · exact (HB1.out.trans (HB2.out.mono HB1.out.size)).trans (hT.below (by omega) (fun i hi => by have h2 : i = B := hi; have := HBE.out; omega))
  rw [HSET] at key
  exact ⟨B, rfl, key.1, key.2⟩
/-! ### begin -/
set_option maxRecDepth 100000 in
set_option maxHeartbeats 1000000 in
theorem cbegin_sym (b : Nat) (F : Nat → Value) (N : Nat) (nx hd : Value) (T : Nat) (a : Option Addr) (c : Nat) (pu tb : Value) (held cnt : Nat) (w : World) (h : ObjF 11 101 w b F) (hc : CC F N nx 0 hd T pu tb (.slice a T c) held cnt false) :
    Calls Tryz.prog 175 #[.pointer (some ⟨b, 0, none⟩)] w fun e w' => e = .returned (.tuple #[]) ∧ (∃ F', ObjF 11 101 w' b F' ∧ CC F' N (mth 225 b) 0 hd T pu (.pointer none) (.slice a T c) held cnt false) ∧ Touch (· = b) w w' := by
  obtain ⟨c0, c1, c2, c3, c4, c5, c6, c7, c8, c9, c10⟩ := cc_cells h hc
  have HO := Lib.hid (fun m => h.drewN m)
  have HC := Lib.hid hc
  have z1 : ((T : Int) == (T : Int)) = true := by simp
  clear h hc
  go_enter Tryz.func175, Tryz.ntmps175
  go_wp2_with fail
  go_quiet (fail)
  rename_i nq
  have f6 := ((HO.out nq).cell (i := 6) (by omega)).2
  have d6 := ((HO.out nq).cell (i := 6) (by omega)).1
  have HO2 := Lib.hid ((HO.out nq).set 6 (.pointer none))
  have f1 := (HO2.out.cell (i := 1) (by omega)).2
  have d1 := (HO2.out.cell (i := 1) (by omega)).1
  have HT : Hid (Touch (· = b) w (w.drewN nq)) := Lib.hid (touch_drewN _ _ nq)
  clear c0 c1 c2 c3 c4 c5 c6 c7 c8 c9 c10
  clear HO
  generalize w.drewN nq = w1 at *
  go_wp2_with fail
  (try simp only [Exit.inBlock, Exit.then])
  refine bodyPost_ret (results_none rfl _ _ _) rfl ?_
  exact ⟨rfl, ⟨_, HO2.out.set 1 _, (HC.out.s_tb _).s_nx _⟩, touch_cell (touch_cell HT.out)⟩
set_option maxRecDepth 100000 in
set_option maxHeartbeats 1000000 in
theorem cbegin_len (b : Nat) (F : Nat → Value) (N : Nat) (nx hd : Value) (T : Nat) (a : Option Addr) (m c : Nat) (pu tb : Value) (held cnt : Nat) (w : World) (h : ObjF 11 101 w b F) (hc : CC F N nx 0 hd T pu tb (.slice a m c) held cnt false) (hm : m ≠ T) (h3 : 3 ≤ N) (h258 : N ≤ 258) :
    Calls Tryz.prog 175 #[.pointer (some ⟨b, 0, none⟩)] w fun e w' => e = .returned (.tuple #[]) ∧ (∃ F', ObjF 11 101 w' b F' ∧ CC F' N (mth 227 b) 0 hd T pu (ptr w.heap.size) (.slice a m c) held cnt false) ∧ IsDel w' w.heap.size N [] 0 false ∧ Touch (· = b) w w' := by
  obtain ⟨c0, c1, c2, c3, c4, c5, c6, c7, c8, c9, c10⟩ := cc_cells h hc
  have HO := Lib.hid (fun m => h.drewN m)
  have HC := Lib.hid hc
  have z1 : ((m : Int) == (T : Int)) = false := by rw [beq_eq_false_iff_ne]; omega
  have hbl := h.lt
  clear h hc hm
  go_enter Tryz.func175, Tryz.ntmps175
  go_wp2_with fail
  go_quiet (fail)
  rename_i nq
  have d0 : (w.drewN nq).cell? ⟨b, 0, none⟩ = some (.int .i64 (N : Int)) := c0
  have HON := Lib.hid (HO.out nq)
  have HT : Hid (Touch (· = b) w (w.drewN nq)) := Lib.hid (touch_drewN _ _ nq)
  have hsz : (w.drewN nq).heap.size = w.heap.size := rfl
  have HSZ := Lib.hid hsz
  clear c0 c1 c2 c3 c4 c5 c6 c7 c8 c9 c10 hsz
  clear HO
  generalize w.drewN nq = w1 at *
  go_wp2_with fail
  refine (dnew_yes N w1 h3 h258).mono ?_
  rintro e w2 ⟨rfl, hd2, hb2⟩
  rw [HSZ.out] at hd2 ⊢
  have HD2 := Lib.hid hd2
  have HO2 := Lib.hid (HON.out.below hb2 (by rw [HSZ.out]; exact hbl))
  have HT2 : Hid (Touch (· = b) w w2) := Lib.hid (HT.out.trans (Touch.ofBelow (S := fun _ => False) hb2) (fun _ h => absurd h id))
  have f6 := (HO2.out.cell (i := 6) (by omega)).2
  have e6 := (HO2.out.cell (i := 6) (by omega)).1
  have HO3 := Lib.hid (HO2.out.set 6 (ptr w.heap.size))
  have f1 := (HO3.out.cell (i := 1) (by omega)).2
  have e1 := (HO3.out.cell (i := 1) (by omega)).1
  obtain ⟨D, hD⟩ : ∃ D, w.heap.size = D := ⟨_, rfl⟩
  rw [hD] at HD2 HO3 f1 e1 ⊢
  have hbD : D ≠ b := by omega
  clear hd2 hb2
  unfold ptr at f1 e1
  go_wp2_with fail
  go_end0
  have hTf : Touch (· = b) w2 ((w2.setCell ⟨b, 6, none⟩ (ptr D)).setCell ⟨b, 1, none⟩ (mth 227 b)) := touch_cell (touch_cell (Touch.refl _ _))
  rw [hD]
  exact ⟨rfl, ⟨_, HO3.out.set 1 _, (HC.out.s_tb _).s_nx _⟩, HD2.out.other hTf (fun e => hbD e), touch_cell (touch_cell HT2.out)⟩
end Go.Proofs.YtojphcoghbiepaaGreatDoor
namespace Go.Proofs.YtojphcoghbiepaaGreatDoor
open Go.RowKit BitM HufM CanM CodM TabM FreqM
set_option linter.unusedVariables false
/-- A row of symbols whose last one, and no other one, is the end. -/
def May14 (zs : List Int) (n : Int) : Prop := 3 ≤ n ∧ n ≤ 258 ∧ 1 ≤ zs.length ∧ Syms zs n ∧ ∀ i, i < zs.length → (zs.getD i 0 = n - 1 ↔ i + 1 = zs.length)
theorem May14.idx {zs : List Int} {n : Int} (h : May14 zs n) : IdxP zs (n - 1) ((zs.length : Int) - 1) := by
  obtain ⟨_, _, h1, _, h5⟩ := h
  refine Or.inl ⟨zs.length - 1, by omega, by omega, (h5 _ (by omega)).2 (by omega), fun j hj e => ?_⟩
  have := (h5 j (by omega)).1 e
  omega
theorem info_ch14 : (Tryz.prog.info? 144).map (·.size) = some 2 := by kernel_rfl
set_option maxRecDepth 100000 in
set_option maxHeartbeats 2000000 in
theorem choice_any (a : Option Addr) (len c : Nat) (zs : List Int) (N : Nat) (w : World) (hI : IsInts w (.slice a len c) zs) (hlen : zs.length = len) (hz : len ≤ 1000) (hc : len ≤ c) (hc2 : c ≤ 9223372036854775807) (hB : Bnds w) (hm : May14 zs (N : Int)) :
    Calls Tryz.prog 96 #[.slice a len c, .int .i64 (N : Int)] w fun e w' => ∃ (vL vP : Value), e = .returned (.tuple #[.agg #[vL, vP], .int .i64 0]) ∧ (∀ W : World, (∀ k, w.heap.size ≤ k → k < w'.heap.size → W.heap[k]? = w'.heap[k]?) → w'.heap.size ≤ W.heap.size → IsRR W vL (rnd zs N 4) ∧ IsInts W vP (picksM zs (rnd zs N 3) (ng zs.length))) ∧ Below w.heap.size w w' := by
  have h0 := choice0 w
  have hB1 := (Below.refl w.heap.size w).alloc (Nat.le_refl _) (.cells #[.slice none 0 0, .slice none 0 0] 144)
  have HB1 := Lib.hid hB1
  have hs1 : (w.alloc (.cells #[.slice none 0 0, .slice none 0 0] 144)).heap.size = w.heap.size + 1 := by simp
  have HS1 := Lib.hid hs1
  have hi := info_ch14
  have h3 : 3 ≤ N := by have := hm.1; omega
  have h258 : N ≤ 258 := by have := hm.2.1; omega
  have h1 : 1 ≤ len := by have := hm.2.2.1; omega
  have HIX := sindex_any _ zs ((N : Int) - 1) ((zs.length : Int) - 1) _ (hI.below hB1) hm.idx (by omega)
  have HOF := Lib.hid (of12_loc a len c zs N _ (hI.below hB1) hlen hz hc hc2 (hB.below hB1) hm.2.2.2.1 h1 h3 h258)
  rw [hlen] at HIX
  have HIXH := Lib.hid HIX
  have hne : (((len : Int) - 1) != (len : Int) - 1) = false := by simp
  have hne2 : (((len : Int) - 1) == (len : Int) - 1) = true := by simp
  clear hB1 hs1 hI hB hm HIX
  go_enter Tryz.func96, Tryz.ntmps96
  go_wp2_with fail
  generalize hw1 : w.alloc (.cells #[.slice none 0 0, .slice none 0 0] 144) = w1 at *
  clear hw1
  refine HIXH.out.mono ?_
  rintro e w2 ⟨rfl, rfl⟩
  go_wp2_with fail
  refine HOF.out.mono ?_
  rintro e w3 ⟨vL, vP, rfl, hk, hb3⟩
  have hg3 : w3.heap[w.heap.size]? = some (.cells #[.slice none 0 0, .slice none 0 0] 144 (0, 0)) := (hb3.block _ (by rw [HS1.out]; omega)).trans h0
  have HB3 := Lib.hid (HB1.out.trans (hb3.mono HB1.out.size))
  obtain ⟨⟨aL, cL, rfl, _⟩, ⟨aP, cP, rfl, _⟩⟩ := hk w3 (fun _ _ _ => rfl) (Nat.le_refl _)
  obtain ⟨M1, hM1⟩ : ∃ M, (rnd zs N 4).length = M := ⟨_, rfl⟩
  obtain ⟨M2, hM2⟩ : ∃ M, (picksM zs (rnd zs N 3) (ng zs.length)).length = M := ⟨_, rfl⟩
  rw [hM1, hM2] at hk ⊢
  have HK : Hid (∀ W : World, (∀ k, w.heap.size ≤ k → k < (w3.setRow w.heap.size #[.slice aL M1 cL, .slice aP M2 cP]).heap.size → W.heap[k]? = (w3.setRow w.heap.size #[.slice aL M1 cL, .slice aP M2 cP]).heap[k]?) → (w3.setRow w.heap.size #[.slice aL M1 cL, .slice aP M2 cP]).heap.size ≤ W.heap.size → IsRR W (.slice aL M1 cL) (rnd zs N 4) ∧ IsInts W (.slice aP M2 cP) (picksM zs (rnd zs N 3) (ng zs.length))) := Lib.hid (fun W hW hs => hk W (fun k hk hk2 => by
    have h5 := HS1.out
    exact (hW k (by omega) (by rw [setRow_size]; exact hk2)).trans (setRow_other w3 w.heap.size k _ (by omega))) (by rw [setRow_size] at hs; exact hs))
  clear hk hb3 h0 hM1 hM2 HOF HIXH
  go_wp2_with (refine wpList_store_row rfl 144 _ _ rfl w.heap.size #[.slice aL M1 cL, .slice aP M2 cP] rfl rfl 144 _ hg3 hi rfl (ch_all _ _ _ _ _ _) ?_)
  exact bodyPost_ret (v := .tuple #[.agg #[.slice aL M1 cL, .slice aP M2 cP], .int .i64 0]) (results_cs rfl _ _ ⟨w.heap.size, 0, none⟩ _ _ rfl rfl (load_ch _ _ _ _ (setRow_heap _ _ _ _ _ _ hg3))) rfl ⟨_, _, rfl, HK.out, below_setRow HB3.out (Nat.le_refl _) _⟩
end Go.Proofs.YtojphcoghbiepaaGreatDoor

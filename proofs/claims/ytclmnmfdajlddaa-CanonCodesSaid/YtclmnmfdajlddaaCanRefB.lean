/-
  THE WALKS OF THE DOCUMENT's ANSWERS OF LAYER 10 (balerref10): all codes; the symbol with which bits begin.
-/
import Derived.Test.YtclmnmfdajlddaaCanRef
import Derived.Test.YtclmnmfdajlddaaCanLawA
import Derived.Test.YtclmnmfdajlddaaStrs
import Derived.Test.YtclmnmfdajlddaaTextEq
namespace Go.Proofs.Ytclmnmfdajlddaa
open Go.RowKit CanM HufM BitM
set_option linter.unusedVariables false
theorem txt_inj {p q : List Bool} (h : txt p = txt q) : p = q := by
  have h1 : (p.map chr).toArray = (q.map chr).toArray := congrArg ByteArray.data h
  have h2 : p.map chr = q.map chr := by simpa using congrArg Array.toList h1
  exact (List.map_inj_right (fun a b hab => by cases a <;> cases b <;> first | rfl | exact absurd hab (by decide))).1 h2
theorem txt_test (p q : List Bool) (r : Bool) (h : r = true ↔ p = q) : ((txt p).toList == (txt q).toList) = r := list_eq_test _ _ r (h.trans ⟨fun e => by rw [e], txt_inj⟩)
theorem txt_empty (q : List Bool) (r : Bool) (h : r = true ↔ q = []) : (txt q).toList.isEmpty = r := by
  rw [Bool.eq_iff_iff, h, ByteArray.toList_eq, List.isEmpty_iff]
  constructor
  · intro e
    cases q with
    | nil => rfl
    | cons a t => cases e
  · rintro rfl
    rfl
/-- The symbols so far have their codes. -/
def CodesAt (zs : List Int) (n i : Nat) (F : Nat → ByteArray) : Prop := ∀ j, j < zs.length → (ln zs j < n ∨ (ln zs j = n ∧ j < i)) → F j = txt (code zs j)
theorem CodesAt.skip {zs : List Int} {n i : Nat} {F : Nat → ByteArray} (h : CodesAt zs n i F) (hn : ¬ ln zs i = n) : CodesAt zs n (i + 1) F := fun j hj hc => h j hj (by
  rcases hc with h1 | ⟨h1, h2⟩
  · exact Or.inl h1
  · refine Or.inr ⟨h1, ?_⟩
    rcases Nat.lt_succ_iff_lt_or_eq.1 h2 with h3 | h3
    · exact h3
    · exact absurd (h3 ▸ h1) hn)
theorem CodesAt.take {zs : List Int} {n i : Nat} {F : Nat → ByteArray} (h : CodesAt zs n i F) (x : ByteArray) (hx : x = txt (code zs i)) : CodesAt zs n (i + 1) (fun k => if k = i then x else F k) := fun j hj hc => by
  show (if j = i then x else F j) = _
  by_cases e : j = i
  · rw [if_pos e, hx, e]
  · rw [if_neg e]
    exact h j hj (by omega)
theorem CodesAt.next {zs : List Int} {n : Nat} {F : Nat → ByteArray} (h : CodesAt zs n zs.length F) : CodesAt zs (n + 1) 0 F := fun j hj hc => h j hj (by omega)
set_option maxRecDepth 100000 in
set_option maxHeartbeats 2000000 in
theorem codes_any (v : Value) (zs : List Int) (w : World) (hv : IsInts w v zs) (h258 : zs.length ≤ 258) (hwh : WholeP zs) :
    Calls Try.prog 34 #[v] w fun e w' => e = .returned (.slice (some ⟨w.heap.size, 0, none⟩) zs.length zs.length) ∧ RowS w' w.heap.size zs.length (fun j => txt (code zs j)) ∧ Below w.heap.size w w' := by
  have HV := Lib.hid hv
  have HW := Lib.hid hwh
  obtain ⟨a, cap, rfl, _⟩ := hv
  obtain ⟨N, hN⟩ : ∃ N, zs.length = N := ⟨_, rfl⟩
  have HN := Lib.hid hN
  rw [hN] at h258 ⊢
  have hmk := make_strs N (by omega) w
  have HR0 := Lib.hid (RowS.made w N)
  have HB0 := Lib.hid ((Below.refl w.heap.size w).alloc (Nat.le_refl _) (.cells (madeCells #[Value.string ⟨#[]⟩] N) 9))
  generalize hw1 : w.alloc (.cells (madeCells #[Value.string ⟨#[]⟩] N) 9) = w1 at *
  clear hw1 hwh hN
  go_enter Try.func34, Try.ntmps34
  go_wp2_with fail
  generalize hg : w.heap.size = g at *
  have HG := Lib.hid hg
  clear hg
  go_loopw [4, 5] (fun vc vn wr => ∃ (n : Nat) (C : List Bool) (F : Nat → ByteArray), vn = .int .i64 (n : Int) ∧ 1 ≤ n ∧ n ≤ 21 ∧ vc = .string (txt C) ∧ C.length ≤ 20 ∧ (n ≤ 20 → CodeAt C n (nxtX zs n 0)) ∧ CodesAt zs n 0 F ∧ RowS wr g N F ∧ Below g w wr) (fun _ vn _ => 21 - (intOf vn).toNat)
  case atStart => exact ⟨1, [], _, rfl, by omega, by omega, rfl, by simp, fun _ => Or.inl ⟨rfl, by
    unfold nxtX
    rw [fcod_succ zs (by decide : 0 < 20), fcod_zero, rank_zero (fun z hz => (HW.out.1 z hz).1)]
    rfl⟩, fun j hj hc => by have := (ln_bd (fun z hz => HW.out.1 z hz) hj).1; omega, HR0.out, HB0.out⟩
  case round =>
    clear HR0 HB0 hmk
    obtain ⟨n, C, F, rfl, hn1, hn21, rfl, hCl, hCA, hCs, hR, hB⟩ := hrel
    have HCA := Lib.hid hCA
    have HCS := Lib.hid hCs
    have HR := Lib.hid hR
    have HB := Lib.hid hB
    have HCL := Lib.hid hCl
    clear hCA hCs hR hB hCl
    by_cases hn20 : n ≤ 20
    · have hni : (n : Int) ≤ 20 := by omega
      have HCA0 := Lib.hid (HCA.out hn20)
      clear HCA
      go_wp2_with fail
      try rw [HN.out]
      go_loopw [4, 17] (fun vc vi wr2 => ∃ (i : Nat) (C : List Bool) (F : Nat → ByteArray), vi = .int .i64 (i : Int) ∧ i ≤ N ∧ vc = .string (txt C) ∧ C.length ≤ n ∧ CodeAt C n (nxtX zs n i) ∧ CodesAt zs n i F ∧ RowS wr2 g N F ∧ Below g w wr2) (fun _ vi _ => N - (intOf vi).toNat)
      case atStart => exact ⟨0, C, F, rfl, by omega, rfl, by rcases HCA0.out with h | h; · rw [h.1]; exact Nat.zero_le _
                                                             · exact h.2.1, HCA0.out, HCS.out, HR.out, HB.out⟩
      case round =>
        clear HCA0 HCS HR HB HCL
        obtain ⟨i, C, F, rfl, hi, rfl, hCl, hCA, hCs, hR, hB⟩ := hrel
        have HCA := Lib.hid hCA
        have HCS := Lib.hid hCs
        have HR := Lib.hid hR
        have HB := Lib.hid hB
        clear hCA hCs hR hB
        by_cases hlk : i < N
        · have hki : (i : Int) < (N : Int) := by omega
          have hlz : i < zs.length := by rw [HN.out]; exact hlk
          have HV2 := Lib.hid (HV.out.below (HG.out ▸ HB.out))
          obtain ⟨b1, o1, k1, he1, c1⟩ := HV2.out.cell hlz
          simp only [Value.slice.injEq] at he1
          obtain ⟨rfl, _, rfl⟩ := he1
          obtain ⟨x, hx⟩ : ∃ x, zs.getD i 0 = x := ⟨_, rfl⟩
          have hxr := HW.out.1 x (by rw [← hx]; exact getD_mem hlz)
          have hln : Hid (ln zs i = x.toNat) := Lib.hid (by unfold ln; rw [hx])
          rw [hx] at c1
          clear hx
          by_cases hxn : x = (n : Int)
          · subst hxn
            have hlnn : Hid (ln zs i = n) := Lib.hid (by rw [hln.out]; omega)
            have hXc := nxtX_cod hlz hlnn.out
            have hcl := cod_lt (x := (ln zs i, i)) (ent_of hlz) HW.out.2 (by show ln zs i ≤ 20; rw [hlnn.out]; exact hn20)
            have hcode : code zs i = field (nxtX zs n i) n := by
              unfold code
              rw [← hXc, hlnn.out]
            rw [← hXc] at hcl
            have hcl : nxtX zs n i < 2 ^ n := by
              have h2 : nxtX zs n i < 2 ^ ln zs i := hcl
              rw [hlnn.out] at h2
              exact h2
            have HNX : Hid (CodeAt (field (nxtX zs n i) n) n (nxtX zs n (i + 1))) := Lib.hid (by
              rw [nxtX_take hlnn.out]
              exact CodeAt.took hn1 hcl)
            have HCODE := Lib.hid hcode
            have HCLT := Lib.hid hcl
            obtain ⟨d0, d1, d2⟩ := HR.out.cell (i := i) hlk
            have HD2 := Lib.hid (d2 (txt (code zs i)))
            have HB2 := Lib.hid (HB.out.setCell (p := ⟨g, i, none⟩) (Nat.le_refl _) (.string (txt (code zs i))))
            clear hXc hcl hcode d2
            by_cases hCe : C = []
            · subst hCe
              have hz : nxtX zs n i = 0 := by
                rcases HCA.out with h | h
                · exact h.2
                · exact absurd rfl h.1
              have HFZ : Hid (code zs i = List.replicate n false) := Lib.hid (by rw [HCODE.out, hz, field_zero])
              have hte := txt_empty [] true ⟨fun _ => rfl, fun _ => rfl⟩
              clear hz
              go_wp2_with fail
              obtain ⟨wz, hwz⟩ : ∃ wz : World, wz = wr := ⟨_, rfl⟩
              subst hwz
              go_loopw [4, 28] (fun vc vk wr3 => ∃ k : Nat, vk = .int .i64 (k : Int) ∧ k ≤ n ∧ vc = .string (txt (List.replicate k false)) ∧ wr3 = wz) (fun _ vk _ => n - (intOf vk).toNat)
              case atStart => exact ⟨0, rfl, by omega, rfl, rfl⟩
              case round =>
                obtain ⟨k, rfl, hk, rfl, rfl⟩ := hrel
                by_cases hkn : k < n
                · have hkni : (k : Int) < (n : Int) := by omega
                  have hs1 : (txt (List.replicate k false)).size ≤ 20 := by rw [txt_size, List.length_replicate]; omega
                  have HT : Hid (txt (List.replicate k false) ++ txt [false] = txt (List.replicate (k + 1) false)) := Lib.hid (by rw [txt_append, List.replicate_succ'])
                  generalize txt (List.replicate k false) = T at *
                  go_wp2_with fail
                  go_roundw
                  case rel => exact ⟨k + 1, by go_num, by omega, congrArg Value.string HT.out, by first | rfl | trivial⟩
                  case measure => simp [intOf]; omega
                · obtain rfl : k = n := by omega
                  rw [← HFZ.out]
                  go_wp2_with fail
                  go_roundw
                  case rel => exact ⟨i + 1, code zs i, _, by go_num, by omega, rfl, by rw [code_length, hlnn.out]; exact Nat.le_refl _, by rw [HCODE.out]; exact HNX.out, HCS.out.take _ rfl, HD2.out, HB2.out⟩
                  case measure => simp [intOf]; omega
            · have hte := txt_empty C false ⟨fun h => (by cases h), fun h => absurd h hCe⟩
              have HNE : Hid (nxtC C n = code zs i) := Lib.hid (by
                rcases HCA.out with h | h
                · exact absurd h.1 hCe
                · rw [HCODE.out]
                  exact nxtC_is h.2.1 h.2.2 HCLT.out)
              clear hCe
              go_wp2_with fail
              refine (next_any C n _ hCl hn20).mono ?_
              rintro e w3 ⟨rfl, rfl⟩
              rw [HNE.out]
              go_wp2_with fail
              go_roundw
              case rel => exact ⟨i + 1, code zs i, _, by go_num, by omega, rfl, by rw [code_length, hlnn.out]; exact Nat.le_refl _, by rw [HCODE.out]; exact HNX.out, HCS.out.take _ rfl, HD2.out, HB2.out⟩
              case measure => simp [intOf]; omega
          · have hxn2 : (x == (n : Int)) = false := by rw [beq_eq_false_iff_ne]; exact hxn
            have hlnn : Hid (¬ ln zs i = n) := Lib.hid (by rw [hln.out]; omega)
            go_wp2_with fail
            go_roundw
            case rel => exact ⟨i + 1, C, F, by go_num, by omega, rfl, hCl, by rw [nxtX_skip hlnn.out]; exact HCA.out, HCS.out.skip hlnn.out, HR.out, HB.out⟩
            case measure => simp [intOf]; omega
        · obtain rfl : i = N := by omega
          go_wp2_with fail
          go_roundw
          case rel => exact ⟨n + 1, C, F, by go_num, by omega, by omega, rfl, by omega, fun h => by rw [nxtX_next (by omega), HN.out]; exact HCA.out.next, CodesAt.next (by rw [HN.out]; exact HCS.out), HR.out, HB.out⟩
          case measure => simp [intOf]; omega
    · obtain rfl : n = 21 := by omega
      go_wp2_with fail
      go_ret
      rw [HG.out]
      exact ⟨rfl, HR.out.ext (fun j hj => HCS.out j (by rw [HN.out]; exact hj) (Or.inl (by have := (ln_bd (fun z hz => HW.out.1 z hz) (show j < zs.length by rw [HN.out]; exact hj)).2; omega))), HB.out⟩
end Go.Proofs.Ytclmnmfdajlddaa

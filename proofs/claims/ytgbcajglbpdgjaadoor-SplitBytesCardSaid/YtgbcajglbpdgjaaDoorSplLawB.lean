/-
  LAYER 19's STATEMENTS: SplitOf, SplitWhole.
-/
import Derived.Test.YtgbcajglbpdgjaaDoorSplLawA
namespace Go.Proofs.YtgbcajglbpdgjaaDoor
open Go.RowKit RleM SplM
set_option linter.unusedVariables false
set_option linter.unusedSimpArgs false
theorem flat_mem_le : ∀ {bs : List (List Pc)} {b : List Pc}, b ∈ bs → (flat b).length ≤ ((bs.map flat).flatten).length
  | x :: xs, b, h => by
    rw [List.map_cons, List.flatten_cons, List.length_append]
    rcases List.mem_cons.1 h with rfl | h
    · omega
    · have := flat_mem_le h
      omega
theorem blks_facts (room : Nat) (h5 : 5 ≤ room) (s : ByteArray) : (blks room s.data.toList).length ≤ s.size ∧ (∀ b ∈ blks room s.data.toList, (flat b).length ≤ s.size ∧ b ≠ [] ∧ (pack b).length ≤ room ∧ RleM.Good b) := by
  have hl : s.data.toList.length = s.size := by simp
  have h0 := blks_flat room h5 s.data.toList
  have h1 := bl_count (blks room s.data.toList) (fun b hb => by
    unfold blks at hb
    exact (endS_ok (rightS room h5 (pieces s.data.toList)) b hb).1)
  have h2 : (blks room s.data.toList).flatten = pieces s.data.toList := by
    unfold blks
    exact endS_flat (rightS room h5 (pieces s.data.toList))
  have h3 := pc_count (pieces s.data.toList) (fun p hp => (good_mem (good s.data.toList) hp).1)
  rw [flat_pieces, hl] at h3
  rw [h2] at h1
  refine ⟨by omega, fun b hb => ⟨?_, ?_, ?_, blks_good room h5 _ hb⟩⟩
  · have := flat_mem_le hb
    rw [h0, hl] at this
    exact this
  · unfold blks at hb
    exact (endS_ok (rightS room h5 (pieces s.data.toList)) b hb).1
  · unfold blks at hb
    exact (endS_ok (rightS room h5 (pieces s.data.toList)) b hb).2
set_option maxRecDepth 100000 in
set_option maxHeartbeats 4000000 in
theorem splitOf.walk (s : ByteArray) (r : Int) (w : World) (hT : Sizes w) (hs : s.size ≤ maxLen) (hr : (Lit.int .i64 r).wf = true) :
    Calls Tryd.prog 4 #[.string s, .int .i64 r] w fun e w' => e = .returned (.bool true) ∧ Below w.heap.size w w' := by
  have HT := Lib.hid hT
  have HFV : Hid (∀ W, Below w.heap.size w W → Calls Tryd.prog 10 #[] W fun e w' => e = .returned (.bool true) ∧ Below W.heap.size W w') := Lib.hid (fun W hb => five19_any W (hT.below hb hT.lt))
  have HRM := Lib.hid (fun W => rroom19_any r W)
  clear hs hr hT
  by_cases hl : 600 < s.size
  · have hli : (600 : Int) < (s.size : Int) := by omega
    go_enter Tryd.func4, Tryd.ntmps4
    go_wp2_with fail
    refine (HFV.out _ (Below.refl _ _)).mono ?_
    rintro e w1 ⟨rfl, hb⟩
    have HB := Lib.hid hb
    clear hb
    go_wp2_with fail
    go_ret
    exact ⟨rfl, HB.out⟩
  · have hli : ¬ (600 : Int) < (s.size : Int) := by omega
    by_cases hok : 5 ≤ r ∧ r ≤ 900000
    · obtain ⟨R, rfl⟩ : ∃ R : Nat, r = (R : Int) := ⟨r.toNat, by omega⟩
      have h5 : 5 ≤ R := by omega
      have hR : R ≤ 900000 := by omega
      rw [decide_eq_true hok] at HRM
      have HOF := Lib.hid (sof19_any s R w h5 hR (by omega) HT.out)
      have HRO := Lib.hid (fun W => rof19_any s R W h5 hR (by omega))
      obtain ⟨hb1, hb2⟩ := blks_facts R h5 s
      obtain ⟨bs, hbs⟩ : ∃ bs, blks R s.data.toList = bs := ⟨_, rfl⟩
      rw [hbs] at HOF HRO hb1 hb2
      have HSM := Lib.hid (fun W v u B B2 (hv : OwnBk W B v bs) (hu : OwnRb W B2 u bs) => same19_any v u B B2 bs W hv hu (by omega) (fun b hb => by have := (hb2 b hb).1; omega))
      clear hok h5 hR hb1 hb2 hbs hl
      go_enter Tryd.func4, Tryd.ntmps4
      go_wp2_with fail
      refine HOF.out.mono ?_
      rintro e w1 ⟨v, rfl, hO, hb1⟩
      have HO := Lib.hid hO
      have HB1 := Lib.hid hb1
      clear hO hb1
      go_wp2_with fail
      refine (HRM.out _).mono ?_
      rintro e w2 ⟨rfl, rfl⟩
      go_wp2_with fail
      refine (HRO.out _).mono ?_
      rintro e w3 ⟨u, rfl, hO3, hb3⟩
      have HO3 := Lib.hid (HO.out.below hb3)
      have HU3 := Lib.hid hO3
      have HB3 := Lib.hid (HB1.out.trans (hb3.mono HB1.out.size))
      clear hO3 hb3
      go_wp2_with fail
      refine (HSM.out _ _ _ _ _ HO3.out HU3.out).mono ?_
      rintro e w4 ⟨rfl, hb4⟩
      have HB4 := Lib.hid (HB3.out.trans (hb4.mono HB3.out.size))
      clear hb4
      go_wp2_with fail
      refine (HFV.out _ HB4.out).mono ?_
      rintro e w5 ⟨rfl, hb5⟩
      have HB5 := Lib.hid (HB4.out.trans (hb5.mono HB4.out.size))
      clear hb5
      go_wp2_with fail
      go_ret
      exact ⟨rfl, HB5.out⟩
    · rw [decide_eq_false hok] at HRM
      have HOF := Lib.hid (sof19_bad s r w (by omega))
      clear hok
      go_enter Tryd.func4, Tryd.ntmps4
      go_wp2_with fail
      refine HOF.out.mono ?_
      rintro e w1 ⟨rfl, rfl⟩
      go_wp2_with fail
      refine (HRM.out _).mono ?_
      rintro e w2 ⟨rfl, rfl⟩
      go_wp2_with fail
      refine (HFV.out _ (Below.refl _ _)).mono ?_
      rintro e w3 ⟨rfl, hb⟩
      have HB := Lib.hid hb
      clear hb
      go_wp2_with fail
      go_ret
      exact ⟨rfl, HB.out⟩
theorem blk_built1 (t : ByteArray) : Tryd.prog.built 52 [(1, .string t)] = some #[.string ⟨#[]⟩, .string t] := by kernel_rfl
set_option maxRecDepth 100000 in
set_option maxHeartbeats 8000000 in
theorem splitWhole.walk (s : ByteArray) (r : Int) (w : World) (hT : Sizes w) (hs : s.size ≤ maxLen) (hr : (Lit.int .i64 r).wf = true) :
    Calls Tryd.prog 6 #[.string s, .int .i64 r] w fun e w' => e = .returned (.bool true) ∧ Below w.heap.size w w' := by
  have HT := Lib.hid hT
  have HFV : Hid (∀ W, Below w.heap.size w W → Calls Tryd.prog 10 #[] W fun e w' => e = .returned (.bool true) ∧ Below W.heap.size W w') := Lib.hid (fun W hb => five19_any W (hT.below hb hT.lt))
  have HRM := Lib.hid (fun W => rroom19_any r W)
  clear hs hr hT
  by_cases hl : 600 < s.size
  · have hli : (600 : Int) < (s.size : Int) := by omega
    go_enter Tryd.func6, Tryd.ntmps6
    go_wp2_with fail
    refine (HFV.out _ (Below.refl _ _)).mono ?_
    rintro e w1 ⟨rfl, hb⟩
    have HB := Lib.hid hb
    clear hb
    go_wp2_with fail
    go_ret
    exact ⟨rfl, HB.out⟩
  · have hli : ¬ (600 : Int) < (s.size : Int) := by omega
    by_cases hok : 5 ≤ r ∧ r ≤ 900000
    · obtain ⟨R, rfl⟩ : ∃ R : Nat, r = (R : Int) := ⟨r.toNat, by omega⟩
      have h5 : 5 ≤ R := by omega
      have hR : R ≤ 900000 := by omega
      rw [decide_eq_true hok] at HRM
      have HOF := Lib.hid (sof19_any s R w h5 hR (by omega) HT.out)
      obtain ⟨hb1, hb2⟩ := blks_facts R h5 s
      have hall := blks_flat R h5 s.data.toList
      obtain ⟨bs, hbs⟩ : ∃ bs, blks R s.data.toList = bs := ⟨_, rfl⟩
      rw [hbs] at HOF hb1 hb2 hall
      have HF := Lib.hid hb2
      have HALL := Lib.hid hall
      obtain ⟨L, hL⟩ : ∃ L, bs.length = L := ⟨_, rfl⟩
      have HL := Lib.hid hL
      have hLb : L ≤ 600 := by omega
      have HPF : Hid (∀ i, (((bs.take i).map flat).flatten).length ≤ 600) := Lib.hid (fun i => by
        have h : ((bs.map flat).flatten).length = s.size := by rw [hall]; simp
        have e : bs.map flat = (bs.take i).map flat ++ (bs.drop i).map flat := by rw [← List.map_append, List.take_append_drop]
        rw [e, List.flatten_append, List.length_append] at h
        omega)
      clear hok h5 hb1 hb2 hall hbs hl
      go_enter Tryd.func6, Tryd.ntmps6
      go_wp2_with fail
      refine (HRM.out _).mono ?_
      rintro e w0 ⟨rfl, rfl⟩
      go_wp2_with fail
      refine HOF.out.mono ?_
      rintro e w1 ⟨v, rfl, hO, hb1⟩
      have HO := Lib.hid hO
      have HB1 := Lib.hid hb1
      obtain ⟨a, cap, rfl⟩ := hO.slice
      rw [hL] at HO ⊢
      clear hO hb1 hL
      obtain ⟨wa, rfl⟩ : ∃ wa : World, wa = w1 := ⟨_, rfl⟩
      go_wp2_with fail
      go_loopw [29, 7] (fun vi vt wr => ∃ i : Nat, vi = .int .i64 (i : Int) ∧ i ≤ L ∧ vt = .string ⟨(((bs.take i).map flat).flatten).toArray⟩ ∧ Below wa.heap.size wa wr) (fun vi _ _ => L - (intOf vi).toNat)
      case atStart => exact ⟨0, rfl, Nat.zero_le _, rfl, Below.refl _ _⟩
      case round =>
        obtain ⟨i, rfl, hi, rfl, hB⟩ := hrel
        have HB := Lib.hid hB
        clear hB
        by_cases hil : i < L
        · have hii : (i : Int) < (L : Int) := by omega
          obtain ⟨b, hb⟩ : ∃ b, bs[i]? = some b := ⟨_, List.getElem?_eq_getElem (by rw [HL.out]; exact hil)⟩
          obtain ⟨g, cp, he, hg, _, c0, c1, c2⟩ := (HO.out.below HB.out).cell hb
          simp only [Value.slice.injEq] at he
          obtain ⟨rfl, hxx, rfl⟩ := he
          clear hxx
          obtain ⟨hfl, hbn, hpk, hgd⟩ := HF.out b (List.mem_of_getElem? hb)
          have hpf := HPF.out i
          have HNX : Hid (⟨(((bs.take i).map flat).flatten).toArray⟩ ++ (⟨(flat b).toArray⟩ : ByteArray) = ⟨(((bs.take (i + 1)).map flat).flatten).toArray⟩) := Lib.hid (by
            have hlt := (List.getElem?_eq_some_iff.1 hb).1
            have he := (List.getElem?_eq_some_iff.1 hb).2
            rw [text_append, List.take_succ_eq_append_getElem hlt, he, List.map_append, List.flatten_append]
            simp)
          obtain ⟨S1, hS1⟩ : ∃ S1 : ByteArray, (⟨(pack b).toArray⟩ : ByteArray) = S1 := ⟨_, rfl⟩
          have HDE : Hid (∀ W, Calls Tryd.prog 20 #[.string S1] W fun e w' => e = .returned (.tuple #[.string ⟨(flat b).toArray⟩, .int .i64 0]) ∧ ∃ n, w' = W.drewN n) := Lib.hid (fun W => by
            have := refDecode_any S1 W (by rw [← hS1, text_size]; omega)
            rw [← hS1] at this ⊢
            rw [show (⟨(pack b).toArray⟩ : ByteArray).data.toList = pack b from rfl, blk_dec hgd] at this
            exact this)
          obtain ⟨S2, hS2⟩ : ∃ S2 : ByteArray, (⟨(flat b).toArray⟩ : ByteArray) = S2 := ⟨_, rfl⟩
          have hS2s : S2.size = (flat b).length := by rw [← hS2]; exact text_size _
          obtain ⟨N, hN⟩ : ∃ N, (flat b).length = N := ⟨_, rfl⟩
          have hS2i : (S2.size : Int) = (N : Int) := by omega
          have HSM := Lib.hid (fun W => rsum19_any ⟨#[]⟩ S2 W (by unfold maxLen; omega))
          have hX : crcS S2.data.toList = crcL (flat b) := by rw [← hS2]; rfl
          rw [hX] at HSM
          obtain ⟨X, hXe⟩ : ∃ X : Nat, (crcL (flat b)).toNat = X := ⟨_, rfl⟩
          rw [hXe] at HSM c1
          rw [hS1] at c0
          rw [hS2] at HDE HNX
          rw [hN] at c2
          obtain ⟨AT, hAT⟩ : ∃ AT : ByteArray, (⟨(((bs.take i).map flat).flatten).toArray⟩ : ByteArray) = AT := ⟨_, rfl⟩
          obtain ⟨AU, hAU⟩ : ∃ AU : ByteArray, (⟨(((bs.take (i + 1)).map flat).flatten).toArray⟩ : ByteArray) = AU := ⟨_, rfl⟩
          have hATs : AT.size ≤ 600 := by rw [← hAT, text_size]; exact hpf
          rw [hAT, hAU] at HNX
          rw [hAT]
          have hadd := HNX.out
          have HAU := Lib.hid hAU
          have hsz : AT.size + S2.size ≤ 2199023255552 := by omega
          have z2 : ((N : Int) != (N : Int)) = false := by simp
          have z3 : ((X : Int) != (X : Int)) = false := by simp
          have hbt := blk_built1 S2
          have HBA := Lib.hid (HB1.out.trans (HB.out.mono HB1.out.size))
          clear hb hfl hbn hpk hgd hpf hS1 hS2 hS2s hN hX hXe hAT hAU hATs
          go_wp2_with fail
          refine (HDE.out _).mono ?_
          rintro e w2 ⟨rfl, m, rfl⟩
          have HW5 : Hid (Below wr.heap.size wr ((wr.alloc (.cells #[.string S1, .int .u32 (X : Int), .int .i64 (N : Int)] 40)).drewN m)) := Lib.hid (((Below.refl _ _).alloc (Nat.le_refl _) _).trans ⟨rfl, rfl, rfl, Nat.le_refl _, fun _ _ => rfl⟩)
          have q1 : ((wr.alloc (.cells #[.string S1, .int .u32 (X : Int), .int .i64 (N : Int)] 40)).drewN m).cell? ⟨wr.heap.size, 1, none⟩ = some (.int .u32 (X : Int)) := (show (wr.alloc (.cells #[.string S1, .int .u32 (X : Int), .int .i64 (N : Int)] 40)).cell? ⟨wr.heap.size, 1, none⟩ = _ by rw [cell_of_row _ _ 1 _ _ _ (heap_alloc_new _ _)]; rfl)
          have q2 : ((wr.alloc (.cells #[.string S1, .int .u32 (X : Int), .int .i64 (N : Int)] 40)).drewN m).cell? ⟨wr.heap.size, 2, none⟩ = some (.int .i64 (N : Int)) := (show (wr.alloc (.cells #[.string S1, .int .u32 (X : Int), .int .i64 (N : Int)] 40)).cell? ⟨wr.heap.size, 2, none⟩ = _ by rw [cell_of_row _ _ 2 _ _ _ (heap_alloc_new _ _)]; rfl)
          have hs5 : ((wr.alloc (.cells #[.string S1, .int .u32 (X : Int), .int .i64 (N : Int)] 40)).drewN m).heap.size = wr.heap.size + 1 := by show (wr.heap.push _).size = _; simp
          obtain ⟨G, hG⟩ : ∃ G, wr.heap.size = G := ⟨_, rfl⟩
          have HGG := Lib.hid hG
          rw [hG] at q1 q2 hs5 ⊢
          clear c0 c1 c2
          generalize (wr.alloc (.cells #[.string S1, .int .u32 (X : Int), .int .i64 (N : Int)] 40)).drewN m = W5 at *
          go_upto_region 9 with fail
          have u1 : ∀ sb : Beneath W5.heap.size W5, sb.val.cell? ⟨G, 1, none⟩ = some (.int .u32 (X : Int)) := fun sb => Beneath.cell q1 (by show G < _; omega) sb
          have u2 : ∀ sb : Beneath W5.heap.size W5, sb.val.cell? ⟨G, 2, none⟩ = some (.int .i64 (N : Int)) := fun sb => Beneath.cell q2 (by show G < _; omega) sb
          clear q1 q2 hs5 hG
          refine wp_region_beneath W5.heap.size W5 (Below.refl _ _) (by kernel_rfl) (by kernel_rfl) ?_
          repeat (go_big_quiet_step (first
            | (go_at_call 21; rename_i sb; exact Calls.beneath sb (Nat.le_refl _) (HSM.out _))))
          refine wpQuiet_nil ?_
          rintro _ ⟨sb, rfl⟩
          have HB6 : Hid (Below wa.heap.size wa sb.val) := Lib.hid (HB.out.trans ((HW5.out.trans (sb.is.mono HW5.out.size)).mono HB.out.size))
          clear u1 u2 HW5
          generalize sb.val = W6 at *
          go_wp2_with fail
          go_roundw
          case rel => exact ⟨i + 1, by go_num, by omega, by rw [HAU.out], HB6.out⟩
          case measure => simp [intOf]; omega
        · have hii : ¬ (i : Int) < (L : Int) := by omega
          have hie : i = L := by omega
          have hT2 : (⟨(((bs.take i).map flat).flatten).toArray⟩ : ByteArray) = s := by
            rw [List.take_of_length_le (by rw [HL.out]; omega), HALL.out]
          rw [hT2]
          have hss : (s.toList == s.toList) = true := list_eq_test s s true ⟨fun _ => rfl, fun _ => rfl⟩
          have HBA := Lib.hid (HB1.out.trans (HB.out.mono HB1.out.size))
          clear hT2 hie
          go_wp2_with fail
          refine (HFV.out _ HBA.out).mono ?_
          rintro e w5 ⟨rfl, hb5⟩
          have HB5 := Lib.hid (HBA.out.trans (hb5.mono HBA.out.size))
          clear hb5
          go_wp2_with fail
          go_ret
          exact ⟨rfl, HB5.out⟩
    · rw [decide_eq_false hok] at HRM
      clear hok
      go_enter Tryd.func6, Tryd.ntmps6
      go_wp2_with fail
      refine (HRM.out _).mono ?_
      rintro e w2 ⟨rfl, rfl⟩
      go_wp2_with fail
      refine (HFV.out _ (Below.refl _ _)).mono ?_
      rintro e w3 ⟨rfl, hb⟩
      have HB := Lib.hid hb
      clear hb
      go_wp2_with fail
      go_ret
      exact ⟨rfl, HB.out⟩
end Go.Proofs.YtgbcajglbpdgjaaDoor

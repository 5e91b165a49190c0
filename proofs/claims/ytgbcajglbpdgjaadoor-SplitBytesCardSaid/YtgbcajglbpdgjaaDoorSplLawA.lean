/-
  LAYER 19's STATEMENTS: five, same; SplitRoom, SplitNil.
-/
import Derived.Test.YtgbcajglbpdgjaaDoorSplJ
import Derived.Test.YtgbcajglbpdgjaaDoorSplRefB
import Derived.Test.YtgbcajglbpdgjaaDoorTextEq
import Derived.Test.YtgbcajglbpdgjaaDoorLawKit
import Derived.BigQuiet
import Derived.Deep.Cut
namespace Go.Proofs.YtgbcajglbpdgjaaDoor
open Go.RowKit RleM SplM
set_option linter.unusedVariables false
set_option linter.unusedSimpArgs false
def aaab : ByteArray := ⟨#[97, 97, 97, 97, 98]⟩
theorem aaab_blks : blks 5 aaab.data.toList = [[(97, 4)], [(98, 1)]] := by decide +kernel
set_option maxRecDepth 100000 in
set_option maxHeartbeats 8000000 in
theorem five19_any (w : World) (hT : Sizes w) : Calls Tryd.prog 10 #[] w fun e w' => e = .returned (.bool true) ∧ Below w.heap.size w w' := by
  have HOF : Hid (Calls Tryd.prog 11 #[.string ⟨#[97, 97, 97, 97, 98]⟩, .int .i64 5] w fun e w' => ∃ v, e = .returned (.tuple #[v, .int .i64 0]) ∧ OwnBk w' w.heap.size v [[(97, 4)], [(98, 1)]] ∧ Below w.heap.size w w') := Lib.hid (by
    have := sof19_any aaab 5 w (by omega) (by omega) (by decide) hT
    rw [aaab_blks] at this
    exact this)
  have HRM : Hid (∀ W, Calls Tryd.prog 9 #[.int .i64 9, .int .i64 100000] W fun e w' => e = .returned (.tuple #[.int .i64 899981, .int .i64 0]) ∧ w' = W) := Lib.hid (fun W => by
    have := room19_any 9 100000 W (by omega) (by omega)
    rw [if_neg (by omega)] at this
    exact this)
  clear hT
  go_enter Tryd.func10, Tryd.ntmps10
  go_wp2_with fail
  refine HOF.out.mono ?_
  rintro e w1 ⟨v, rfl, hO, hb⟩
  have HB := Lib.hid hb
  obtain ⟨g, cap, rfl, _, _, c0, _, c2⟩ := hO.cell (i := 0) (b := [(97, 4)]) rfl
  obtain ⟨g', cap', hv, _, _, c3, _, _⟩ := hO.cell (i := 1) (b := [(98, 1)]) rfl
  simp only [Value.slice.injEq, Option.some.injEq, Addr.mk.injEq, and_true, true_and] at hv
  obtain ⟨rfl, rfl⟩ := hv
  have d0 : w1.cell? ⟨g, 0, none⟩ = some (.string ⟨#[97, 97, 97, 97, 0]⟩) := c0
  have d2 : w1.cell? ⟨g, 2, none⟩ = some (.int .i64 4) := c2
  have d3 : w1.cell? ⟨g, 3, none⟩ = some (.string ⟨#[98]⟩) := c3
  clear hO hb c0 c2 c3
  go_wp2_with fail
  refine (HRM.out _).mono ?_
  rintro e w2 ⟨rfl, rfl⟩
  go_wp2_with fail
  go_ret
  exact ⟨rfl, HB.out⟩
set_option maxRecDepth 100000 in
set_option maxHeartbeats 8000000 in
theorem same19_any (v u : Value) (B B2 : Nat) (bs : List (List Pc)) (w : World) (hv : OwnBk w B v bs) (hu : OwnRb w B2 u bs) (hl : bs.length ≤ 1000000) (hf : ∀ b ∈ bs, (flat b).length ≤ 1000000) :
    Calls Tryd.prog 13 #[v, u] w fun e w' => e = .returned (.bool true) ∧ Below w.heap.size w w' := by
  have HV := Lib.hid hv
  have HU := Lib.hid hu
  have HF := Lib.hid hf
  obtain ⟨a, cap, rfl⟩ := hv.slice
  obtain ⟨a2, cap2, rfl⟩ := hu.slice
  obtain ⟨L, hL⟩ : ∃ L, bs.length = L := ⟨_, rfl⟩
  rw [hL] at HV HU hl ⊢
  have HL := Lib.hid hL
  clear hv hu hf hL
  go_enter Tryd.func13, Tryd.ntmps13
  go_wp2_with fail
  go_loopw [14] (fun vi wr => ∃ i : Nat, vi = .int .i64 (i : Int) ∧ i ≤ L ∧ Below w.heap.size w wr) (fun vi _ => L - (intOf vi).toNat)
  case atStart => exact ⟨0, rfl, Nat.zero_le _, Below.refl _ _⟩
  case round =>
    obtain ⟨i, rfl, hi, hB⟩ := hrel
    have HB := Lib.hid hB
    clear hB
    by_cases hil : i < L
    · have hii : (i : Int) < (L : Int) := by omega
      obtain ⟨b, hb⟩ : ∃ b, bs[i]? = some b := ⟨_, List.getElem?_eq_getElem (by rw [HL.out]; exact hil)⟩
      obtain ⟨g, cp, he, hg, _, c0, c1, c2⟩ := (HV.out.below HB.out).cell hb
      obtain ⟨g2, cp2, he2, hg2, _, d0, d1⟩ := (HU.out.below HB.out).cell hb
      simp only [Value.slice.injEq] at he he2
      obtain ⟨rfl, _, rfl⟩ := he
      obtain ⟨rfl, _, rfl⟩ := he2
      have hfl := HF.out b (List.mem_of_getElem? hb)
      obtain ⟨S1, hS1⟩ : ∃ S1 : ByteArray, (⟨(pack b).toArray⟩ : ByteArray) = S1 := ⟨_, rfl⟩
      obtain ⟨S2, hS2⟩ : ∃ S2 : ByteArray, (⟨(flat b).toArray⟩ : ByteArray) = S2 := ⟨_, rfl⟩
      have hS2s : S2.size = (flat b).length := by rw [← hS2]; exact text_size _
      obtain ⟨N, hN⟩ : ∃ N, (flat b).length = N := ⟨_, rfl⟩
      have hS2i : (S2.size : Int) = (N : Int) := by omega
      have HSM := Lib.hid (fun W => rsum19_any S1 S2 W (by unfold maxLen; omega))
      have hX : crcS S2.data.toList = crcL (flat b) := by rw [← hS2]; rfl
      rw [hX] at HSM
      obtain ⟨X, hXe⟩ : ∃ X : Nat, (crcL (flat b)).toNat = X := ⟨_, rfl⟩
      rw [hXe] at HSM c1
      rw [hS1] at c0 d0
      rw [hS2] at d1
      rw [hN] at c2
      have z1 : (S1.toList == S1.toList) = true := list_eq_test S1 S1 true ⟨fun _ => rfl, fun _ => rfl⟩
      have z2 : ((N : Int) != (N : Int)) = false := by simp
      have z3 : ((X : Int) != (X : Int)) = false := by simp
      have z4 : (S1.toList != S1.toList) = false := by simp
      clear hb hfl hS1 hS2 hS2s hN hX hXe
      go_upto_region 6 with fail
      have HW5 : Hid (Below w.heap.size w (wr.alloc (.cells #[.string S1, .int .u32 (X : Int), .int .i64 (N : Int)] 40))) := Lib.hid (HB.out.alloc HB.out.size _)
      have q0 : (wr.alloc (.cells #[.string S1, .int .u32 (X : Int), .int .i64 (N : Int)] 40)).cell? ⟨wr.heap.size, 0, none⟩ = some (.string S1) := by rw [cell_of_row _ _ 0 _ _ _ (heap_alloc_new _ _)]; rfl
      have q1 : (wr.alloc (.cells #[.string S1, .int .u32 (X : Int), .int .i64 (N : Int)] 40)).cell? ⟨wr.heap.size, 1, none⟩ = some (.int .u32 (X : Int)) := by rw [cell_of_row _ _ 1 _ _ _ (heap_alloc_new _ _)]; rfl
      have q2 : (wr.alloc (.cells #[.string S1, .int .u32 (X : Int), .int .i64 (N : Int)] 40)).cell? ⟨wr.heap.size, 2, none⟩ = some (.int .i64 (N : Int)) := by rw [cell_of_row _ _ 2 _ _ _ (heap_alloc_new _ _)]; rfl
      have r0 : (wr.alloc (.cells #[.string S1, .int .u32 (X : Int), .int .i64 (N : Int)] 40)).cell? ⟨g2, i * 2, none⟩ = some (.string S1) := (World.cell?_alloc_lt _ _ ⟨g2, i * 2, none⟩ hg2).trans d0
      have r1 : (wr.alloc (.cells #[.string S1, .int .u32 (X : Int), .int .i64 (N : Int)] 40)).cell? ⟨g2, i * 2 + 1, none⟩ = some (.string S2) := (World.cell?_alloc_lt _ _ ⟨g2, i * 2 + 1, none⟩ hg2).trans d1
      have hs5 : (wr.alloc (.cells #[.string S1, .int .u32 (X : Int), .int .i64 (N : Int)] 40)).heap.size = wr.heap.size + 1 := by show (wr.heap.push _).size = _; simp
      clear c0 c1 c2 d0 d1
      obtain ⟨G, hG⟩ : ∃ G, wr.heap.size = G := ⟨_, rfl⟩
      rw [hG] at q0 q1 q2 hs5 hg2 ⊢
      generalize wr.alloc (.cells #[.string S1, .int .u32 (X : Int), .int .i64 (N : Int)] 40) = W5 at *
      have u0 : ∀ sb : Beneath W5.heap.size W5, sb.val.cell? ⟨G, 0, none⟩ = some (.string S1) := fun sb => Beneath.cell q0 (by show G < _; omega) sb
      have u1 : ∀ sb : Beneath W5.heap.size W5, sb.val.cell? ⟨G, 1, none⟩ = some (.int .u32 (X : Int)) := fun sb => Beneath.cell q1 (by show G < _; omega) sb
      have u2 : ∀ sb : Beneath W5.heap.size W5, sb.val.cell? ⟨G, 2, none⟩ = some (.int .i64 (N : Int)) := fun sb => Beneath.cell q2 (by show G < _; omega) sb
      have u3 : ∀ sb : Beneath W5.heap.size W5, sb.val.cell? ⟨g2, i * 2, none⟩ = some (.string S1) := fun sb => Beneath.cell r0 (by show g2 < _; omega) sb
      have u4 : ∀ sb : Beneath W5.heap.size W5, sb.val.cell? ⟨g2, i * 2 + 1, none⟩ = some (.string S2) := fun sb => Beneath.cell r1 (by show g2 < _; omega) sb
      clear q0 q1 q2 r0 r1 hs5 hG
      refine wp_region_beneath W5.heap.size W5 (Below.refl _ _) (by kernel_rfl) (by kernel_rfl) ?_
      repeat (go_big_quiet_step (first
        | (go_at_call 21; rename_i sb; exact Calls.beneath sb (Nat.le_refl _) (HSM.out _))))
      refine wpQuiet_nil ?_
      rintro _ ⟨sb, rfl⟩
      have HB6 := Lib.hid (HW5.out.trans (sb.is.mono HW5.out.size))
      clear u0 u1 u2 u3 u4 HW5
      generalize sb.val = W6 at *
      go_wp2_with fail
      go_roundw
      case rel => exact ⟨i + 1, by go_num, by omega, HB6.out⟩
      case measure => simp [intOf]; omega
    · have hii : ¬ (i : Int) < (L : Int) := by omega
      go_wp2_with fail
      go_ret
      exact ⟨rfl, HB.out⟩
set_option maxRecDepth 100000 in
set_option maxHeartbeats 4000000 in
theorem splitNil.walk (x : Int) (w : World) (hT : Sizes w) (hx : (Lit.int .u8 x).wf = true) :
    Calls Tryd.prog 8 #[.int .u8 x] w fun e w' => e = .returned (.bool true) ∧ Below w.heap.size w w' := by
  have HT := Lib.hid hT
  have HP : Hid (∀ W, Calls Tryd.prog 16 #[.pointer none, .int .u8 x] W fun e w' => e = .returned (.tuple #[.agg #[.string ⟨#[]⟩, .int .u32 0, .int .i64 0], .bool false]) ∧ Below W.heap.size W w') := Lib.hid (fun W => sput19_nil x W)
  clear hT hx
  go_enter Tryd.func8, Tryd.ntmps8
  go_wp2_with fail
  refine (HP.out _).mono ?_
  rintro e w1 ⟨rfl, hb1⟩
  have HB1 := Lib.hid (hb1.alloc hb1.size (.cells #[.string ⟨#[]⟩, .int .u32 0, .int .i64 0] 40))
  clear hb1
  go_wp2_with fail
  refine (send19_nil _).mono ?_
  rintro e w2 ⟨rfl, rfl⟩
  go_wp2_with fail
  refine (sheld19_nil _).mono ?_
  rintro e w3 ⟨rfl, rfl⟩
  go_wp2_with fail
  refine (five19_any _ (HT.out.below HB1.out HT.out.lt)).mono ?_
  rintro e w4 ⟨rfl, hb4⟩
  have HB4 := Lib.hid (HB1.out.trans (hb4.mono HB1.out.size))
  clear hb4
  go_wp2_with fail
  go_ret
  exact ⟨rfl, HB4.out⟩
set_option maxRecDepth 100000 in
set_option maxHeartbeats 4000000 in
theorem splitRoom.walk (l u : Int) (w : World) (hT : Sizes w) (hl : (Lit.int .i64 l).wf = true) (hu : (Lit.int .i64 u).wf = true) :
    Calls Tryd.prog 3 #[.int .i64 l, .int .i64 u] w fun e w' => e = .returned (.bool true) ∧ Below w.heap.size w w' := by
  have hl2 : -9223372036854775808 ≤ l ∧ l ≤ 9223372036854775807 := by simpa [Lit.wf, IntKind.min, IntKind.max, IntKind.signed, IntKind.bits] using hl
  have hu2 : -9223372036854775808 ≤ u ∧ u ≤ 9223372036854775807 := by simpa [Lit.wf, IntKind.min, IntKind.max, IntKind.signed, IntKind.bits] using hu
  have HF := Lib.hid (five19_any w hT)
  have HR := Lib.hid (room19_any l u w hl2 hu2)
  clear hT hl hu hl2 hu2
  by_cases h1 : l < 1
  · rw [if_pos (Or.inl h1)] at HR
    go_enter Tryd.func3, Tryd.ntmps3
    go_wp2_with fail
    refine HR.out.mono ?_
    rintro e w1 ⟨rfl, rfl⟩
    go_wp2_with fail
    refine HF.out.mono ?_
    rintro e w2 ⟨rfl, hb⟩
    have HB := Lib.hid hb
    clear hb
    go_wp2_with fail
    go_ret
    exact ⟨rfl, HB.out⟩
  by_cases h2 : 9 < l
  · rw [if_pos (Or.inr (Or.inl h2))] at HR
    have h2' : l > 9 := h2
    go_enter Tryd.func3, Tryd.ntmps3
    go_wp2_with fail
    refine HR.out.mono ?_
    rintro e w1 ⟨rfl, rfl⟩
    go_wp2_with fail
    refine HF.out.mono ?_
    rintro e w2 ⟨rfl, hb⟩
    have HB := Lib.hid hb
    clear hb
    go_wp2_with fail
    go_ret
    exact ⟨rfl, HB.out⟩
  have h2' : ¬ l > 9 := h2
  by_cases h3 : u < 24
  · rw [if_pos (Or.inr (Or.inr (Or.inl h3)))] at HR
    go_enter Tryd.func3, Tryd.ntmps3
    go_wp2_with fail
    refine HR.out.mono ?_
    rintro e w1 ⟨rfl, rfl⟩
    go_wp2_with fail
    refine HF.out.mono ?_
    rintro e w2 ⟨rfl, hb⟩
    have HB := Lib.hid hb
    clear hb
    go_wp2_with fail
    go_ret
    exact ⟨rfl, HB.out⟩
  by_cases h4 : 100000 < u
  · rw [if_pos (Or.inr (Or.inr (Or.inr h4)))] at HR
    have h4' : u > 100000 := h4
    go_enter Tryd.func3, Tryd.ntmps3
    go_wp2_with fail
    refine HR.out.mono ?_
    rintro e w1 ⟨rfl, rfl⟩
    go_wp2_with fail
    refine HF.out.mono ?_
    rintro e w2 ⟨rfl, hb⟩
    have HB := Lib.hid hb
    clear hb
    go_wp2_with fail
    go_ret
    exact ⟨rfl, HB.out⟩
  have h4' : ¬ u > 100000 := h4
  rw [if_neg (by omega)] at HR
  have hm1 : 0 ≤ l * u := Int.mul_nonneg (by omega) (by omega)
  have hm2 : l * u ≤ 9 * 100000 := Int.mul_le_mul (by omega) (by omega) (by omega) (by omega)
  have hmw : IntKind.i64.wrap (l * u) = l * u := IntWalk.i64_in _ (by omega)
  have hsw : IntKind.i64.wrap (l * u - 19) = l * u - 19 := IntWalk.i64_in _ (by omega)
  go_enter Tryd.func3, Tryd.ntmps3
  go_wp2_with fail
  refine HR.out.mono ?_
  rintro e w1 ⟨rfl, rfl⟩
  go_wp2_with fail
  refine HF.out.mono ?_
  rintro e w2 ⟨rfl, hb⟩
  have HB := Lib.hid hb
  clear hb
  go_wp2_with fail
  go_ret
  exact ⟨rfl, HB.out⟩
end Go.Proofs.YtgbcajglbpdgjaaDoor

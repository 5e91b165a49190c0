/-
  LAYER 10's STATEMENTS: CanonApart.
-/
import Derived.Test.YtclmnmfdajlddaaCanLawA
namespace Go.Proofs.Ytclmnmfdajlddaa
open Go.RowKit CanM HufM BitM
set_option linter.unusedVariables false
/-- Does a row begin with symbol j's code? -/
def hit (l : List Int) (V j : Nat) : Nat := if frm l (ln l j, j) ≤ V ∧ V < frm l (ln l j, j) + sz (ln l j) then 1 else 0
def hits (l : List Int) (V k : Nat) : Nat := sumN (hit l V) (List.range k)
theorem hits_succ (l : List Int) (V k : Nat) : hits l V (k + 1) = hits l V k + hit l V k := sumN_range _ _
theorem frm_apart {l : List Int} {i j : Nat} (hi : i < l.length) (hj : j < l.length) (h : i ≠ j) : frm l (ln l i, i) + sz (ln l i) ≤ frm l (ln l j, j) ∨ frm l (ln l j, j) + sz (ln l j) ≤ frm l (ln l i, i) := by
  rcases lt_or (ln l i, i) (ln l j, j) h with h5 | h5
  · exact Or.inl (apart (ent_of hi) (ent_of hj) h5)
  · exact Or.inr (apart (ent_of hj) (ent_of hi) h5)
theorem hits_le (l : List Int) (V : Nat) : ∀ k, hits l V k ≤ k
  | 0 => Nat.le_refl _
  | k + 1 => by
    rw [hits_succ]
    have := hits_le l V k
    unfold hit
    split <;> omega
theorem hits_one {l : List Int} {V : Nat} (hV : V < shr l) : hits l V l.length = 1 := by
  obtain ⟨i, hi, h1, h2⟩ := CanM.cover hV
  have h1 : frm l (ln l i, i) ≤ V := h1
  have h2 : V < frm l (ln l i, i) + sz (ln l i) := h2
  have key : ∀ k, k ≤ l.length → hits l V k = if i < k then 1 else 0 := by
    intro k
    induction k with
    | zero => intro _; rfl
    | succ k ih =>
      intro hk
      rw [hits_succ, ih (by omega)]
      by_cases e : k = i
      · subst e
        rw [if_neg (by omega), if_pos (by omega)]
        unfold hit
        rw [if_pos ⟨h1, h2⟩]
      · have h3 : hit l V k = 0 := by
          unfold hit
          refine if_neg ?_
          rintro ⟨h3, h4⟩
          rcases frm_apart (show k < l.length by omega) hi e with h5 | h5 <;> omega
        rw [h3]
        by_cases h4 : i < k
        · rw [if_pos h4, if_pos (by omega)]
        · rw [if_neg h4, if_neg (by omega)]
  rw [key _ (Nat.le_refl _), if_pos hi]
theorem wrap_pow {Z S : Nat} (h : 2 ^ S = Z) (hZ : Z ≤ 1048576) : wrap64 (2 ^ S) = (Z : Int) := by
  have HZI : (2 : Int) ^ S = (Z : Int) := by rw [← h, Int.natCast_pow]; rfl
  rw [HZI]
  exact IntWalk.wrap64_in _ (by omega)
theorem wrap_mul {Z S C Fm : Nat} (h : 2 ^ S = Z) (hmul : C * Z = Fm) (hF : Fm ≤ 1048576) : wrap64 ((C : Int) * 2 ^ S) = (Fm : Int) := by
  have HFI : (C : Int) * 2 ^ S = (Fm : Int) := by rw [← hmul, ← h, Int.natCast_mul, Int.natCast_pow]; rfl
  rw [HFI]
  exact IntWalk.wrap64_in _ (by omega)
/-- The numbers of a symbol's code. -/
structure Nums (zs : List Int) (k n S C Fm Z : Nat) : Prop where
  n1 : 1 ≤ n
  n20 : n ≤ 20
  ln_ : ln zs k = n
  s : 20 - n = S
  cod_ : cod zs (ln zs k, k) = C
  frm_ : frm zs (ln zs k, k) = Fm
  sz_ : sz (ln zs k) = Z
  in_ : Fm + Z ≤ 1048576
  pos : 0 < Z
  cb : C ≤ 1048576
  w1 : wrap64 ((C : Int) * 2 ^ S) = (Fm : Int)
  w2 : wrap64 (2 ^ S) = (Z : Int)
theorem Nums.is {zs : List Int} (hwh : WholeP zs) {k : Nat} (hk : k < zs.length) : ∃ n S C Fm Z, Nums zs k n S C Fm Z := by
  have hln := ln_bd (fun z hz => hwh.1 z hz) hk
  have h1 := within (ent_of hk)
  rw [hwh.2] at h1
  have h2 : siz (ln zs k, k) = sz (ln zs k) := rfl
  rw [h2] at h1
  have hmul : cod zs (ln zs k, k) * sz (ln zs k) = frm zs (ln zs k, k) := cod_mul zs (ln zs k, k)
  have hp := sz_pos (ln zs k)
  have hle : cod zs (ln zs k, k) ≤ cod zs (ln zs k, k) * sz (ln zs k) := Nat.le_mul_of_pos_right _ hp
  have hpow : 2 ^ (20 - ln zs k) = sz (ln zs k) := by unfold sz; rfl
  have hC : cod zs (ln zs k, k) ≤ 1048576 := by rw [hmul] at hle; omega
  have hZ : sz (ln zs k) ≤ 1048576 := by omega
  have hF : frm zs (ln zs k, k) ≤ 1048576 := by omega
  exact ⟨ln zs k, 20 - ln zs k, _, _, _, hln.1, hln.2, rfl, rfl, rfl, rfl, rfl, h1, hp, hC, wrap_mul hpow hmul hF, wrap_pow hpow hZ⟩
set_option maxRecDepth 100000 in
set_option maxHeartbeats 4000000 in
theorem canonApart.walk (l : Option Addr) (llen lcap : Nat) (lz : List Int) (row : Int) (w : World) (hl : IsRow .i64 w l llen lcap lz) (hr : (Lit.int .u32 row).wf = true) :
    Calls Try.prog 13 #[.slice l llen lcap, .int .u32 row] w fun e w' => e = .returned (.bool true) ∧ Below w.heap.size w w' := by
  obtain ⟨hI, hlen⟩ := ints_in hl
  obtain ⟨hl1, hl2⟩ := isRow_len hl
  generalize List.take llen lz = zs at *
  have HI := Lib.hid hI
  have HLEN := Lib.hid hlen
  have h3 := fun W => canThree_any W
  have H3 := Lib.hid h3
  clear hl hI hlen h3
  have hbd := Go.bounds_u32 hr
  by_cases h100 : llen ≤ 100
  · have h100i : (llen : Int) ≤ 100 := by omega
    by_cases hsz : SizeP llen
    · have HA := Lib.hid (csz_any _ zs true w HI.out (by rw [HLEN.out]; omega) ⟨fun _ => by rw [HLEN.out]; exact hsz, fun _ => rfl⟩)
      by_cases hwh : WholeP zs
      · have HB := Lib.hid (rWhole_any _ zs true w HI.out (by rw [HLEN.out]; omega) ⟨fun _ => hwh, fun _ => rfl⟩)
        have HW := Lib.hid hwh
        obtain ⟨hs3, hs258⟩ := hsz
        have HNY := Lib.hid (new_yes _ zs w HI.out (by rw [HLEN.out]; omega) (by rw [HLEN.out]; omega) hwh)
        obtain ⟨R, hR⟩ : ∃ R : Nat, row = (R : Int) := ⟨row.toNat, by omega⟩
        subst hR
        obtain ⟨V, hV⟩ : ∃ V, R % 1048576 = V := ⟨_, rfl⟩
        have hVi : (R : Int) % 1048576 = (V : Int) := by omega
        have hVb : V < 1048576 := by omega
        clear hwh hV
        go_enter Try.func13, Try.ntmps13
        go_wp2_with fail
        refine HA.out.mono ?_
        rintro e w1 ⟨rfl, rfl⟩
        go_wp2_with fail
        refine HB.out.mono ?_
        rintro e w2 ⟨rfl, rfl⟩
        go_wp2_with fail
        refine HNY.out.mono ?_
        rintro e w3 ⟨rfl, hC3, hB3⟩
        have HC3 := Lib.hid hC3
        have HB3 := Lib.hid hB3
        obtain ⟨c, hc⟩ : ∃ c, w2.heap.size = c := ⟨_, rfl⟩
        rw [hc] at HC3 ⊢
        clear hC3 hB3
        go_wp2_with fail
        rw [hVi]
        clear hVi
        go_loopw [8, 45] (fun vb vk wr => ∃ k B : Nat, vk = .int .i64 (k : Int) ∧ vb = .int .i64 (B : Int) ∧ k ≤ llen ∧ B = hits zs V k ∧ IsCode wr c zs ∧ Below w2.heap.size w2 wr) (fun _ vk _ => llen - (intOf vk).toNat)
        case atStart => exact ⟨0, 0, rfl, rfl, by omega, rfl, HC3.out, HB3.out⟩
        case round =>
          obtain ⟨k, B, rfl, rfl, hk, hB, hCk, hBk⟩ := hrel
          have HCK := Lib.hid hCk
          have HBK := Lib.hid hBk
          have HBB := Lib.hid hB
          have hBb : B ≤ k := by rw [hB]; exact hits_le _ _ _
          clear hB hCk hBk
          by_cases hkl : k < llen
          · have hkli : (k : Int) < (llen : Int) := by omega
            have hkz : k < zs.length := by rw [HLEN.out]; exact hkl
            have hln := ln_bd (fun z hz => HW.out.1 z hz) hkz
            have HOF := Lib.hid (of_yes c zs k wr HCK.out (fun z hz => HW.out.1 z hz) (by rw [HLEN.out]; omega) hkz)
            obtain ⟨n, S, C, Fm, Z, hnums⟩ := Nums.is HW.out hkz
            have HNUM := Lib.hid hnums
            have HHIT : Hid (hit zs V k = if Fm ≤ V ∧ V < Fm + Z then 1 else 0) := Lib.hid (by rw [← hnums.frm_, ← hnums.sz_]; rfl)
            rw [hnums.cod_, hnums.ln_] at HOF
            rw [hnums.ln_] at hln
            have hw1 := hnums.w1
            have hw2 := hnums.w2
            have hin := hnums.in_
            have hZp := hnums.pos
            have hCb := hnums.cb
            have hs20 := hnums.s
            have hSI : (20 : Int) - (n : Int) = (S : Int) := by omega
            have hS0 : ¬ (20 : Int) - (n : Int) < 0 := by omega
            have hSb : S ≤ 20 := by omega
            clear hnums hs20
            go_wp2_with fail
            refine HOF.out.mono ?_
            rintro e w4 ⟨rfl, m, hw4⟩
            have HC4 : Hid (IsCode w4 c zs) := Lib.hid (by rw [hw4]; exact HCK.out.other (touch_drewN (fun _ => False) _ m) (fun hf => hf))
            have HB4 : Hid (Below w2.heap.size w2 w4) := Lib.hid (by rw [hw4]; exact HBK.out.trans ((below_drewN _ m).mono HBK.out.size))
            clear hw4 HOF
            by_cases hin1 : Fm ≤ V
            · have hin1i : (Fm : Int) ≤ (V : Int) := by omega
              by_cases hin2 : V < Fm + Z
              · have hin2i : (V : Int) < (Fm : Int) + (Z : Int) := by omega
                have HNX : Hid (hits zs V (k + 1) = B + 1) := Lib.hid (by rw [hits_succ, ← HBB.out, HHIT.out, if_pos ⟨hin1, hin2⟩])
                clear hin1 hin2
                go_wp2_with fail
                try rw [hw1]
                try rw [hw2]
                go_loopw [85] (fun vt wr2 => ∃ t : Nat, vt = .int .i64 (t : Int) ∧ t ≤ k ∧ IsCode wr2 c zs ∧ Below w2.heap.size w2 wr2) (fun vt _ => k - (intOf vt).toNat)
                case atStart => exact ⟨0, rfl, by omega, HC4.out, HB4.out⟩
                case round =>
                  obtain ⟨t, rfl, ht, hCt, hBt⟩ := hrel
                  have HCT := Lib.hid hCt
                  have HBT := Lib.hid hBt
                  clear hCt hBt
                  by_cases htk : t < k
                  · have htki : (t : Int) < (k : Int) := by omega
                    have htz : t < zs.length := by rw [HLEN.out]; omega
                    have hln2 := ln_bd (fun z hz => HW.out.1 z hz) htz
                    have HOF2 := Lib.hid (of_yes c zs t _ HCT.out (fun z hz => HW.out.1 z hz) (by rw [HLEN.out]; omega) htz)
                    obtain ⟨n2, S2, C2, F2, Z2, hnum2⟩ := Nums.is HW.out htz
                    have hap : Fm + Z ≤ F2 ∨ F2 + Z2 ≤ Fm := by
                      have := frm_apart hkz htz (by omega)
                      rw [HNUM.out.frm_, HNUM.out.sz_, hnum2.frm_, hnum2.sz_] at this
                      exact this
                    rw [hnum2.cod_, hnum2.ln_] at HOF2
                    rw [hnum2.ln_] at hln2
                    have hy1 := hnum2.w1
                    have hy2 := hnum2.w2
                    have hiny := hnum2.in_
                    have hZ2p := hnum2.pos
                    have hC2b := hnum2.cb
                    have hs20 := hnum2.s
                    have hSI2 : (20 : Int) - (n2 : Int) = (S2 : Int) := by omega
                    have hS02 : ¬ (20 : Int) - (n2 : Int) < 0 := by omega
                    have hSb2 : S2 ≤ 20 := by omega
                    clear hnum2 hs20
                    rcases hap with hap | hap
                    · have ha1 : (Fm : Int) < (F2 : Int) + (Z2 : Int) := by omega
                      have ha2 : (Fm : Int) + (Z : Int) ≤ (F2 : Int) := by omega
                      clear hap
                      go_wp2_with fail
                      refine HOF2.out.mono ?_
                      rintro e w5 ⟨rfl, m5, hw5⟩
                      have HC5 : Hid (IsCode w5 c zs) := Lib.hid (by rw [hw5]; exact HCT.out.other (touch_drewN (fun _ => False) _ m5) (fun hf => hf))
                      have HB5 : Hid (Below w2.heap.size w2 w5) := Lib.hid (by rw [hw5]; exact HBT.out.trans ((below_drewN _ m5).mono HBT.out.size))
                      clear hw5 HOF2
                      go_wp2_with fail
                      go_roundw
                      case rel => exact ⟨t + 1, by go_num, by omega, HC5.out, HB5.out⟩
                      case measure => simp [intOf]; omega
                    · have ha1 : (F2 : Int) + (Z2 : Int) ≤ (Fm : Int) := by omega
                      clear hap
                      go_wp2_with fail
                      refine HOF2.out.mono ?_
                      rintro e w5 ⟨rfl, m5, hw5⟩
                      have HC5 : Hid (IsCode w5 c zs) := Lib.hid (by rw [hw5]; exact HCT.out.other (touch_drewN (fun _ => False) _ m5) (fun hf => hf))
                      have HB5 : Hid (Below w2.heap.size w2 w5) := Lib.hid (by rw [hw5]; exact HBT.out.trans ((below_drewN _ m5).mono HBT.out.size))
                      clear hw5 HOF2
                      go_wp2_with fail
                      go_roundw
                      case rel => exact ⟨t + 1, by go_num, by omega, HC5.out, HB5.out⟩
                      case measure => simp [intOf]; omega
                  · have htki : ¬ (t : Int) < (k : Int) := by omega
                    go_wp2_with fail
                    go_roundw
                    case rel => exact ⟨k + 1, B + 1, by go_num, by first | rfl | go_num, by omega, HNX.out.symm, HCT.out, HBT.out⟩
                    case measure => simp [intOf]; omega
              · have hin2i : (Fm : Int) + (Z : Int) ≤ (V : Int) := by omega
                have HNX : Hid (hits zs V (k + 1) = B) := Lib.hid (by rw [hits_succ, ← HBB.out, HHIT.out, if_neg (fun h => hin2 h.2)]; rfl)
                clear hin1 hin2
                go_wp2_with fail
                try rw [hw1]
                try rw [hw2]
                go_loopw [85] (fun vt wr2 => ∃ t : Nat, vt = .int .i64 (t : Int) ∧ t ≤ k ∧ IsCode wr2 c zs ∧ Below w2.heap.size w2 wr2) (fun vt _ => k - (intOf vt).toNat)
                case atStart => exact ⟨0, rfl, by omega, HC4.out, HB4.out⟩
                case round =>
                  obtain ⟨t, rfl, ht, hCt, hBt⟩ := hrel
                  have HCT := Lib.hid hCt
                  have HBT := Lib.hid hBt
                  clear hCt hBt
                  by_cases htk : t < k
                  · have htki : (t : Int) < (k : Int) := by omega
                    have htz : t < zs.length := by rw [HLEN.out]; omega
                    have hln2 := ln_bd (fun z hz => HW.out.1 z hz) htz
                    have HOF2 := Lib.hid (of_yes c zs t _ HCT.out (fun z hz => HW.out.1 z hz) (by rw [HLEN.out]; omega) htz)
                    obtain ⟨n2, S2, C2, F2, Z2, hnum2⟩ := Nums.is HW.out htz
                    have hap : Fm + Z ≤ F2 ∨ F2 + Z2 ≤ Fm := by
                      have := frm_apart hkz htz (by omega)
                      rw [HNUM.out.frm_, HNUM.out.sz_, hnum2.frm_, hnum2.sz_] at this
                      exact this
                    rw [hnum2.cod_, hnum2.ln_] at HOF2
                    rw [hnum2.ln_] at hln2
                    have hy1 := hnum2.w1
                    have hy2 := hnum2.w2
                    have hiny := hnum2.in_
                    have hZ2p := hnum2.pos
                    have hC2b := hnum2.cb
                    have hs20 := hnum2.s
                    have hSI2 : (20 : Int) - (n2 : Int) = (S2 : Int) := by omega
                    have hS02 : ¬ (20 : Int) - (n2 : Int) < 0 := by omega
                    have hSb2 : S2 ≤ 20 := by omega
                    clear hnum2 hs20
                    rcases hap with hap | hap
                    · have ha1 : (Fm : Int) < (F2 : Int) + (Z2 : Int) := by omega
                      have ha2 : (Fm : Int) + (Z : Int) ≤ (F2 : Int) := by omega
                      clear hap
                      go_wp2_with fail
                      refine HOF2.out.mono ?_
                      rintro e w5 ⟨rfl, m5, hw5⟩
                      have HC5 : Hid (IsCode w5 c zs) := Lib.hid (by rw [hw5]; exact HCT.out.other (touch_drewN (fun _ => False) _ m5) (fun hf => hf))
                      have HB5 : Hid (Below w2.heap.size w2 w5) := Lib.hid (by rw [hw5]; exact HBT.out.trans ((below_drewN _ m5).mono HBT.out.size))
                      clear hw5 HOF2
                      go_wp2_with fail
                      go_roundw
                      case rel => exact ⟨t + 1, by go_num, by omega, HC5.out, HB5.out⟩
                      case measure => simp [intOf]; omega
                    · have ha1 : (F2 : Int) + (Z2 : Int) ≤ (Fm : Int) := by omega
                      clear hap
                      go_wp2_with fail
                      refine HOF2.out.mono ?_
                      rintro e w5 ⟨rfl, m5, hw5⟩
                      have HC5 : Hid (IsCode w5 c zs) := Lib.hid (by rw [hw5]; exact HCT.out.other (touch_drewN (fun _ => False) _ m5) (fun hf => hf))
                      have HB5 : Hid (Below w2.heap.size w2 w5) := Lib.hid (by rw [hw5]; exact HBT.out.trans ((below_drewN _ m5).mono HBT.out.size))
                      clear hw5 HOF2
                      go_wp2_with fail
                      go_roundw
                      case rel => exact ⟨t + 1, by go_num, by omega, HC5.out, HB5.out⟩
                      case measure => simp [intOf]; omega
                  · have htki : ¬ (t : Int) < (k : Int) := by omega
                    go_wp2_with fail
                    go_roundw
                    case rel => exact ⟨k + 1, B, by go_num, by first | rfl | go_num, by omega, HNX.out.symm, HCT.out, HBT.out⟩
                    case measure => simp [intOf]; omega
            · have hin1i : (V : Int) < (Fm : Int) := by omega
              have HNX : Hid (hits zs V (k + 1) = B) := Lib.hid (by rw [hits_succ, ← HBB.out, HHIT.out, if_neg (fun h => hin1 h.1)]; rfl)
              clear hin1
              go_wp2_with fail
              try rw [hw1]
              try rw [hw2]
              go_loopw [85] (fun vt wr2 => ∃ t : Nat, vt = .int .i64 (t : Int) ∧ t ≤ k ∧ IsCode wr2 c zs ∧ Below w2.heap.size w2 wr2) (fun vt _ => k - (intOf vt).toNat)
              case atStart => exact ⟨0, rfl, by omega, HC4.out, HB4.out⟩
              case round =>
                obtain ⟨t, rfl, ht, hCt, hBt⟩ := hrel
                have HCT := Lib.hid hCt
                have HBT := Lib.hid hBt
                clear hCt hBt
                by_cases htk : t < k
                · have htki : (t : Int) < (k : Int) := by omega
                  have htz : t < zs.length := by rw [HLEN.out]; omega
                  have hln2 := ln_bd (fun z hz => HW.out.1 z hz) htz
                  have HOF2 := Lib.hid (of_yes c zs t _ HCT.out (fun z hz => HW.out.1 z hz) (by rw [HLEN.out]; omega) htz)
                  obtain ⟨n2, S2, C2, F2, Z2, hnum2⟩ := Nums.is HW.out htz
                  have hap : Fm + Z ≤ F2 ∨ F2 + Z2 ≤ Fm := by
                    have := frm_apart hkz htz (by omega)
                    rw [HNUM.out.frm_, HNUM.out.sz_, hnum2.frm_, hnum2.sz_] at this
                    exact this
                  rw [hnum2.cod_, hnum2.ln_] at HOF2
                  rw [hnum2.ln_] at hln2
                  have hy1 := hnum2.w1
                  have hy2 := hnum2.w2
                  have hiny := hnum2.in_
                  have hZ2p := hnum2.pos
                  have hC2b := hnum2.cb
                  have hs20 := hnum2.s
                  have hSI2 : (20 : Int) - (n2 : Int) = (S2 : Int) := by omega
                  have hS02 : ¬ (20 : Int) - (n2 : Int) < 0 := by omega
                  have hSb2 : S2 ≤ 20 := by omega
                  clear hnum2 hs20
                  rcases hap with hap | hap
                  · have ha1 : (Fm : Int) < (F2 : Int) + (Z2 : Int) := by omega
                    have ha2 : (Fm : Int) + (Z : Int) ≤ (F2 : Int) := by omega
                    clear hap
                    go_wp2_with fail
                    refine HOF2.out.mono ?_
                    rintro e w5 ⟨rfl, m5, hw5⟩
                    have HC5 : Hid (IsCode w5 c zs) := Lib.hid (by rw [hw5]; exact HCT.out.other (touch_drewN (fun _ => False) _ m5) (fun hf => hf))
                    have HB5 : Hid (Below w2.heap.size w2 w5) := Lib.hid (by rw [hw5]; exact HBT.out.trans ((below_drewN _ m5).mono HBT.out.size))
                    clear hw5 HOF2
                    go_wp2_with fail
                    go_roundw
                    case rel => exact ⟨t + 1, by go_num, by omega, HC5.out, HB5.out⟩
                    case measure => simp [intOf]; omega
                  · have ha1 : (F2 : Int) + (Z2 : Int) ≤ (Fm : Int) := by omega
                    clear hap
                    go_wp2_with fail
                    refine HOF2.out.mono ?_
                    rintro e w5 ⟨rfl, m5, hw5⟩
                    have HC5 : Hid (IsCode w5 c zs) := Lib.hid (by rw [hw5]; exact HCT.out.other (touch_drewN (fun _ => False) _ m5) (fun hf => hf))
                    have HB5 : Hid (Below w2.heap.size w2 w5) := Lib.hid (by rw [hw5]; exact HBT.out.trans ((below_drewN _ m5).mono HBT.out.size))
                    clear hw5 HOF2
                    go_wp2_with fail
                    go_roundw
                    case rel => exact ⟨t + 1, by go_num, by omega, HC5.out, HB5.out⟩
                    case measure => simp [intOf]; omega
                · have htki : ¬ (t : Int) < (k : Int) := by omega
                  go_wp2_with fail
                  go_roundw
                  case rel => exact ⟨k + 1, B, by go_num, by first | rfl | go_num, by omega, HNX.out.symm, HCT.out, HBT.out⟩
                  case measure => simp [intOf]; omega
          · have hkli : ¬ (k : Int) < (llen : Int) := by omega
            obtain rfl : B = 1 := by
              have h1 := hits_one (l := zs) (V := V) (by rw [HW.out.2]; exact hVb)
              rw [HLEN.out, ← show k = llen by omega, ← HBB.out] at h1
              exact h1
            go_wp2_with fail
            refine (H3.out _).mono ?_
            rintro e w9 ⟨rfl, hb9⟩
            have HB9 : Hid (Below w2.heap.size w2 w9) := Lib.hid (HBK.out.trans (hb9.mono HBK.out.size))
            clear hb9
            go_wp2_with fail
            go_ret
            exact ⟨rfl, HB9.out⟩
      · have HB := Lib.hid (rWhole_any _ zs false w HI.out (by rw [HLEN.out]; omega) ⟨fun h => (by cases h), fun h => absurd h hwh⟩)
        go_enter Try.func13, Try.ntmps13
        go_wp2_with fail
        refine HA.out.mono ?_
        rintro e w1 ⟨rfl, rfl⟩
        go_wp2_with fail
        refine HB.out.mono ?_
        rintro e w2 ⟨rfl, rfl⟩
        go_wp2_with fail
        refine (H3.out _).mono ?_
        rintro e w' ⟨rfl, hb⟩
        have HB := Lib.hid hb
        clear hb
        go_wp2_with fail
        go_ret
        exact ⟨rfl, HB.out⟩
    · have HA := Lib.hid (csz_any _ zs false w HI.out (by rw [HLEN.out]; omega) ⟨fun h => (by cases h), fun h => absurd h (by rw [HLEN.out]; exact hsz)⟩)
      go_enter Try.func13, Try.ntmps13
      go_wp2_with fail
      refine HA.out.mono ?_
      rintro e w1 ⟨rfl, rfl⟩
      go_wp2_with fail
      refine (H3.out _).mono ?_
      rintro e w' ⟨rfl, hb⟩
      have HB := Lib.hid hb
      clear hb
      go_wp2_with fail
      go_ret
      exact ⟨rfl, HB.out⟩
  · have h100i : ¬ (llen : Int) ≤ 100 := by omega
    go_enter Try.func13, Try.ntmps13
    go_wp2_with fail
    refine (H3.out _).mono ?_
    rintro e w' ⟨rfl, hb⟩
    have HB := Lib.hid hb
    clear hb
    go_wp2_with fail
    go_ret
    exact ⟨rfl, HB.out⟩
end Go.Proofs.Ytclmnmfdajlddaa

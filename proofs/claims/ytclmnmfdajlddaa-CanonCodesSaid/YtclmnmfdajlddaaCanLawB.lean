/-
  LAYER 10's STATEMENTS: symbols written and read: CanonBack.
-/
import Derived.Test.YtclmnmfdajlddaaCanLawA
import Derived.Test.YtclmnmfdajlddaaFreq
namespace Go.Proofs.Ytclmnmfdajlddaa
open Go.RowKit CanM HufM BitM
set_option linter.unusedVariables false
theorem touch_base {B : Nat} {w w' : World} (h : Below B w w') : Touch (B ≤ ·) w w' := ⟨h.os, h.tape, h.output, h.size, fun i hi hs => h.block i (by omega)⟩
/-- The bits of symbols. -/
def encB (zs ys : List Int) : List Bool := ys.flatMap fun y => code zs y.toNat
theorem encB_succ (zs : List Int) {ys : List Int} {k : Nat} (hk : k < ys.length) : encB zs (ys.take (k + 1)) = encB zs (ys.take k) ++ code zs (ys.getD k 0).toNat := by
  unfold encB
  rw [List.take_add_one, List.flatMap_append, List.getElem?_eq_getElem hk, List.getD_eq_getElem?_getD, List.getElem?_eq_getElem hk]
  simp
theorem encB_len {zs ys : List Int} (hw : ∀ z ∈ zs, 1 ≤ z ∧ z ≤ 20) (hy : ∀ y ∈ ys, 0 ≤ y ∧ y < (zs.length : Int)) : (encB zs ys).length ≤ 20 * ys.length := by
  induction ys with
  | nil => exact Nat.le_refl _
  | cons y t ih =>
    have h1 := ih (fun z hz => hy z (List.mem_cons_of_mem _ hz))
    have h2 := hy y (List.mem_cons_self ..)
    have h3 := (ln_bd hw (i := y.toNat) (by omega)).2
    unfold encB at h1 ⊢
    rw [List.flatMap_cons, List.length_append, code_length, List.length_cons]
    omega
theorem encB_drop (zs : List Int) {ys : List Int} {k : Nat} (hk : k < ys.length) (r : List Bool) : (encB zs ys ++ r).drop (encB zs (ys.take k)).length = code zs (ys.getD k 0).toNat ++ (encB zs (ys.drop (k + 1)) ++ r) := by
  have e : encB zs ys = encB zs (ys.take k) ++ (code zs (ys.getD k 0).toNat ++ encB zs (ys.drop (k + 1))) := by
    have h1 := encB_succ zs hk
    rw [← List.append_assoc, ← h1]
    unfold encB
    rw [← List.flatMap_append, List.take_append_drop]
  rw [e, List.append_assoc, List.drop_left', List.append_assoc]
  rfl
theorem begins_code {zs : List Int} (hwh : WholeP zs) {i : Nat} (hi : i < zs.length) (r : List Bool) : CanM.Begins zs (ln zs i, i) (code zs i ++ r) := by
  refine ⟨by rw [List.length_append, code_length]; exact Nat.le_add_right _ _, ?_⟩
  show num ((code zs i ++ r).take (ln zs i)) = cod zs (ln zs i, i)
  rw [List.take_left' (code_length zs i)]
  unfold code
  rw [field_num]
  exact Nat.mod_eq_of_lt (cod_lt (x := (ln zs i, i)) (ent_of hi) hwh.2 (ln_bd (fun z hz => hwh.1 z hz) hi).2)
theorem getP_is {zs : List Int} (hwh : WholeP zs) {i : Nat} (hi : i < zs.length) {q : List Bool} (hb : CanM.Begins zs (ln zs i, i) q) {p p' : Nat} {x e : Int} (h : GetP zs q p x e p') : x = (i : Int) ∧ e = 0 ∧ p' = p + ln zs i := by
  rcases h with ⟨j, hj, hbj, h1, h2, h3⟩ | ⟨h1, _⟩
  · have := begins_one (ent_of hj) (ent_of hi) (ln_bd (fun z hz => hwh.1 z hz) hj).2 (ln_bd (fun z hz => hwh.1 z hz) hi).2 hbj hb
    obtain rfl : j = i := congrArg Prod.snd this
    exact ⟨h1, h2, h3⟩
  · exact absurd hb (h1 i hi)
theorem pad_len (q : List Bool) : (q ++ padding q).length % 8 = 0 ∧ (padding q).length < 8 := by
  unfold padding
  rw [List.length_append, field_length]
  omega
set_option maxRecDepth 100000 in
set_option maxHeartbeats 4000000 in
theorem canonBack.walk (l : Option Addr) (llen lcap : Nat) (lz : List Int) (symbols : Option Addr) (slen scap : Nat) (sz_ : List Int) (w : World) (hl : IsRow .i64 w l llen lcap lz) (hs : IsRow .i64 w symbols slen scap sz_) :
    Calls Try.prog 12 #[.slice l llen lcap, .slice symbols slen scap] w fun e w' => e = .returned (.bool true) ∧ Below w.heap.size w w' := by
  obtain ⟨hI, hlen⟩ := ints_in hl
  obtain ⟨hl1, hl2⟩ := isRow_len hl
  obtain ⟨hJ, hlen2⟩ := ints_in hs
  obtain ⟨hs1, hs2⟩ := isRow_len hs
  generalize List.take llen lz = zs at *
  generalize List.take slen sz_ = ys at *
  have HI := Lib.hid hI
  have HJ := Lib.hid hJ
  have HLEN := Lib.hid hlen
  have HLEN2 := Lib.hid hlen2
  have h3 := fun W => canThree_any W
  have H3 := Lib.hid h3
  clear hl hI hlen h3 hs hJ hlen2
  by_cases h200 : slen ≤ 200
  · have h200i : (slen : Int) ≤ 200 := by omega
    by_cases hsz : SizeP llen
    · have HA := Lib.hid (csz_any _ zs true w HI.out (by rw [HLEN.out]; omega) ⟨fun _ => by rw [HLEN.out]; exact hsz, fun _ => rfl⟩)
      have hs258 := hsz.2
      have hs3 := hsz.1
      by_cases hwh : WholeP zs
      · have HB := Lib.hid (rWhole_any _ zs true w HI.out (by rw [HLEN.out]; omega) ⟨fun _ => hwh, fun _ => rfl⟩)
        have HW := Lib.hid hwh
        by_cases hy : FreqM.Syms ys (llen : Int)
        · have HO := Lib.hid (rOf_any _ ys (llen : Int) true w HJ.out (by rw [HLEN2.out]; omega) ⟨fun _ => hy, fun _ => rfl⟩)
          have HY : Hid (∀ y ∈ ys, 0 ≤ y ∧ y < (zs.length : Int)) := Lib.hid (fun y hyy => by rw [HLEN.out]; exact hy y hyy)
          have HNY := Lib.hid (new_yes _ zs w HI.out (by rw [HLEN.out]; omega) (by rw [HLEN.out]; omega) hwh)
          have hel := encB_len (fun z hz => HW.out.1 z hz) HY.out
          have HEL : Hid (∀ k, (encB zs (ys.take k)).length ≤ 4000) := Lib.hid (fun k => by
            have h1 := encB_len (zs := zs) (ys := ys.take k) (fun z hz => HW.out.1 z hz) (fun y hyy => HY.out y (List.mem_of_mem_take hyy))
            have h2 : (ys.take k).length ≤ slen := by rw [List.length_take, HLEN2.out]; omega
            omega)
          clear hwh hy hel
          go_enter Try.func12, Try.ntmps12
          go_wp2_with fail
          refine HA.out.mono ?_
          rintro e w1 ⟨rfl, rfl⟩
          go_wp2_with fail
          refine HB.out.mono ?_
          rintro e w1' ⟨rfl, rfl⟩
          go_wp2_with fail
          refine HO.out.mono ?_
          rintro e w1'' ⟨rfl, rfl⟩
          go_wp2_with fail
          refine HNY.out.mono ?_
          rintro e w3 ⟨rfl, hC3, hB3⟩
          have HC3 := Lib.hid hC3
          have HB3 := Lib.hid hB3
          have HCS3 : Hid (w1'.heap.size < w3.heap.size) := Lib.hid (by obtain ⟨F, k, _⟩ := hC3; exact (Array.getElem?_eq_some_iff.1 k).1)
          clear hC3 hB3
          obtain ⟨c, hc⟩ : ∃ c, w1'.heap.size = c := ⟨_, rfl⟩
          rw [hc] at HC3 HCS3 ⊢
          have hcs := HCS3.out
          go_wp2_with fail
          refine (newWriter_any w3).mono ?_
          rintro e w4 ⟨rfl, hw4, hb4⟩
          obtain ⟨g, hg⟩ : ∃ g, w3.heap.size = g := ⟨_, rfl⟩
          have HW4 := Lib.hid hw4
          have HC4 : Hid (IsCode w4 c zs) := Lib.hid (HC3.out.other (Touch.ofBelow (S := fun _ => False) hb4) (fun h => h))
          have HB4 : Hid (Below w1'.heap.size w1' w4) := Lib.hid (HB3.out.trans (hb4.mono HB3.out.size))
          have hcg : Hid (c < g) := Lib.hid (by rw [← hg]; exact hcs)
          rw [hg] at HW4 ⊢
          have HCC := Lib.hid hc
          clear hw4 hb4 hc hg hcs HCS3
          go_wp2_with fail
          go_loopw [43] (fun vi wr => ∃ (k : Nat) (v1 : Value), vi = .int .i64 (k : Int) ∧ k ≤ slen ∧ IsWriter wr g v1 (encB zs (ys.take k)) 0 ∧ (∀ j, v1.ownBlock = some j → c < j) ∧ IsCode wr c zs ∧ Below w1'.heap.size w1' wr) (fun vi _ => slen - (intOf vi).toNat)
          case atStart => exact ⟨0, _, rfl, by omega, HW4.out, (fun j hj => by simp [Value.ownBlock] at hj), HC4.out, HB4.out⟩
          case round =>
            obtain ⟨k, v1, rfl, hk, hWk, hfk, hCk, hBk⟩ := hrel
            have HWK := Lib.hid hWk
            have HFK := Lib.hid hfk
            have HCK := Lib.hid hCk
            have HBK := Lib.hid hBk
            have hgl : Hid (g < wr.heap.size) := Lib.hid (hWk.lt g (Or.inl rfl)).1
            clear hWk hfk hCk hBk
            by_cases hkl : k < slen
            · have hki : (k : Int) < (slen : Int) := by omega
              have hkz : k < ys.length := by rw [HLEN2.out]; exact hkl
              have HJK : Hid (IsInts wr (.slice symbols slen scap) ys) := Lib.hid (HJ.out.below HBK.out)
              obtain ⟨b1, o1, k1, he1, c1⟩ := HJK.out.cell hkz
              rw [HLEN2.out] at he1
              simp only [Value.slice.injEq] at he1
              obtain ⟨rfl, _, rfl⟩ := he1
              have hyk := HY.out _ (getD_mem hkz)
              obtain ⟨i, hi⟩ : ∃ i, (ys.getD k 0).toNat = i := ⟨_, rfl⟩
              have hyi : ys.getD k 0 = (i : Int) := by omega
              rw [hyi] at c1
              have HNX : Hid (encB zs (ys.take (k + 1)) = encB zs (ys.take k) ++ code zs i) := Lib.hid (by rw [encB_succ zs hkz, hi])
              have HPUT := Lib.hid (cput_yes c g zs i v1 _ 0 wr HCK.out (by rw [HLEN.out]; omega) HW.out (by omega) HWK.out (by have := HEL.out k; omega))
              clear hyk hi hyi hkz
              go_wp2_with fail
              refine HPUT.out.mono ?_
              rintro e w5 ⟨rfl, v2, h5a, h5b, h5c⟩
              have HW5 : Hid (IsWriter w5 g v2 (encB zs (ys.take (k + 1))) 0) := Lib.hid (by rw [HNX.out]; exact h5a)
              have HF5 : Hid (∀ j, v2.ownBlock = some j → c < j) := Lib.hid (fun j hj => by
                rcases h5c j hj with h | h
                · exact HFK.out j h
                · have h1 := hgl.out; have h2 := hcg.out; omega)
              have HC5 : Hid (IsCode w5 c zs) := Lib.hid (HCK.out.other h5b (by
                rintro (h | h)
                · have h2 := hcg.out; omega
                · have h2 := HFK.out c h; omega))
              have HB5 : Hid (Below w1'.heap.size w1' w5) := Lib.hid (HBK.out.trans (h5b.below HBK.out.size (by
                rintro j (h | h)
                · have h2 := hcg.out; have h3 := HCC.out; omega
                · have h2 := HFK.out j h; have h3 := HCC.out; omega)))
              clear h5a h5b h5c HPUT
              go_wp2_with fail
              go_roundw
              case rel => exact ⟨k + 1, v2, by go_num, by omega, HW5.out, HF5.out, HC5.out, HB5.out⟩
              case measure => simp [intOf]; omega
            · have hki : ¬ (k : Int) < (slen : Int) := by omega
              have hall : ys.take k = ys := List.take_of_length_le (by rw [HLEN2.out]; omega)
              have hqb := HEL.out k
              rw [hall] at HWK hqb
              obtain ⟨q, hq⟩ : ∃ q, encB zs ys = q := ⟨_, rfl⟩
              rw [hq] at HWK hqb
              have HQ := Lib.hid hq
              have HQB := Lib.hid hqb
              clear hall hq hqb
              go_wp2_with fail
              refine (wpad_any g v1 q 0 wr HWK.out (by have := HQB.out; omega)).mono ?_
              rintro e w5 ⟨rfl, v2, h5a, h5b, h5c⟩
              obtain ⟨Q, hQ⟩ : ∃ Q, q ++ padding q = Q := ⟨_, rfl⟩
              rw [hQ] at h5a
              have HQQ := Lib.hid hQ
              have HW5 := Lib.hid h5a
              have HF5 : Hid (∀ j, v2.ownBlock = some j → c < j) := Lib.hid (fun j hj => by
                rcases h5c j hj with h | h
                · exact HFK.out j h
                · have h1 := hgl.out; have h2 := hcg.out; omega)
              have HC5 : Hid (IsCode w5 c zs) := Lib.hid (HCK.out.other h5b (by
                rintro (h | h)
                · have h2 := hcg.out; omega
                · have h2 := HFK.out c h; omega))
              have HB5 : Hid (Below w1'.heap.size w1' w5) := Lib.hid (HBK.out.trans (h5b.below HBK.out.size (by
                rintro j (h | h)
                · have h2 := hcg.out; have h3 := HCC.out; omega
                · have h2 := HFK.out j h; have h3 := HCC.out; omega)))
              clear h5a h5b h5c hQ
              go_wp2_with fail
              refine (wtake_any g v2 Q 0 w5 HW5.out).mono ?_
              rintro e w6 ⟨rfl, h6a, h6b⟩
              have HCS6 : Hid (c < w6.heap.size) := Lib.hid (by have h1 := (h6a.lt g (Or.inl rfl)).1; have h2 := hcg.out; omega)
              have HC6 : Hid (IsCode w6 c zs) := Lib.hid (HC5.out.other h6b (by
                rintro (h | h)
                · have h2 := hcg.out; omega
                · have h2 := HF5.out c h; omega))
              have HB6 : Hid (Below w1'.heap.size w1' w6) := Lib.hid (HB5.out.trans (h6b.below HB5.out.size (by
                rintro j (h | h)
                · have h2 := hcg.out; have h3 := HCC.out; omega
                · have h2 := HF5.out j h; have h3 := HCC.out; omega)))
              have HQL : Hid (Q.length % 8 = 0 ∧ Q.length ≤ 4008 ∧ Q.length < q.length + 8) := Lib.hid (by
                have h1 := pad_len q
                have h2 := HQB.out
                rw [← HQQ.out]
                rw [List.length_append] at h1 ⊢
                omega)
              have hbl : Hid ((byts Q).length ≤ 501) := Lib.hid (by rw [byts_length]; have := HQL.out; omega)
              rw [List.drop_zero]
              clear h6a h6b
              go_wp2_with fail
              refine (newReader_any _ w6 (by show (byts Q).toArray.size ≤ maxLen; rw [List.size_toArray]; exact Nat.le_trans hbl.out (by decide))).mono ?_
              rintro e w7 ⟨b, rv, rfl, h7a, h7b, h7c⟩
              have HR7 : Hid (IsReader w7 b rv (byts Q) 0 0 0) := Lib.hid (by simpa using h7a)
              have HC7 : Hid (IsCode w7 c zs) := Lib.hid (HC6.out.other (Touch.ofBelow (S := fun _ => False) h7b) (fun h => h))
              have HB7 : Hid (Below w1'.heap.size w1' w7) := Lib.hid (HB6.out.trans (h7b.mono HB6.out.size))
              have HF7 : Hid (∀ j, foot b rv j → w6.heap.size ≤ j) := Lib.hid h7c
              have HL7 : Hid (∀ j, foot b rv j → j < w7.heap.size) := Lib.hid (fun j hj => HR7.out.lt j hj)
              obtain ⟨B7, hB7⟩ : ∃ B7, w7.heap.size = B7 := ⟨_, rfl⟩
              have HB77 := Lib.hid hB7
              have hcb : Hid (c < b ∧ b < B7 ∧ w1'.heap.size ≤ b) := Lib.hid ⟨Nat.lt_of_lt_of_le HCS6.out (HF7.out b (Or.inl rfl)), by rw [← hB7]; exact HL7.out b (Or.inl rfl), Nat.le_trans HB6.out.size (HF7.out b (Or.inl rfl))⟩
              clear h7a h7b h7c hB7
              go_wp2_with fail
              have HHB : Hid (bitsOf (byts Q) = Q) := Lib.hid (bitsOf_byts (Q.length / 8) Q (by have := HQL.out; omega))
              have HDROP : Hid (∀ k, k < ys.length → ∃ r, Q.drop (encB zs (ys.take k)).length = code zs (ys.getD k 0).toNat ++ r) := Lib.hid (fun k hk => by
                rw [← HQQ.out, ← HQ.out, encB_drop zs hk]
                exact ⟨_, rfl⟩)
              go_loopw [11, 60] (fun vg vi wr => ∃ (k : Nat), vi = .int .i64 (k : Int) ∧ k ≤ slen ∧ OwnI wr B7 vg (ys.take k) ∧ IsReader wr b rv (byts Q) 0 0 (encB zs (ys.take k)).length ∧ IsCode wr c zs ∧ Below w1'.heap.size w1' wr ∧ B7 ≤ wr.heap.size) (fun _ vi _ => slen - (intOf vi).toNat)
              case atStart => exact ⟨0, rfl, by omega, OwnI.nil _ _, HR7.out, HC7.out, HB7.out, by rw [HB77.out]; exact Nat.le_refl _⟩
              case round =>
                obtain ⟨k, rfl, hk, hO, hR, hC, hB, hBS⟩ := hrel
                have HOW := Lib.hid hO
                have HRK := Lib.hid hR
                have HCK := Lib.hid hC
                have HBK := Lib.hid hB
                have HBS := Lib.hid hBS
                obtain ⟨oa, oc, rfl⟩ := hO.slice
                have hlen : (ys.take k).length = k := by rw [List.length_take, HLEN2.out]; omega
                rw [hlen] at HOW ⊢
                have HLENK := Lib.hid hlen
                clear hO hR hC hB hBS hlen
                by_cases hkl : k < slen
                · have hki : (k : Int) < (slen : Int) := by omega
                  have hkz : k < ys.length := by rw [HLEN2.out]; exact hkl
                  have hyk := HY.out _ (getD_mem hkz)
                  obtain ⟨i, hi⟩ : ∃ i, (ys.getD k 0).toNat = i := ⟨_, rfl⟩
                  have hyi : ys.getD k 0 = (i : Int) := by omega
                  have hiz : i < zs.length := by omega
                  obtain ⟨r, hr⟩ := HDROP.out k hkz
                  rw [hi] at hr
                  have HBG : Hid (CanM.Begins zs (ln zs i, i) ((bitsOf (byts Q)).drop ((encB zs (ys.take k)).length - 8 * 0))) := Lib.hid (by
                    rw [HHB.out, Nat.mul_zero, Nat.sub_zero, hr]
                    exact begins_code HW.out hiz r)
                  have HNX : Hid ((encB zs (ys.take (k + 1))).length = (encB zs (ys.take k)).length + ln zs i) := Lib.hid (by rw [encB_succ zs hkz, hi, List.length_append, code_length])
                  have HTK : Hid (ys.take k ++ [(i : Int)] = ys.take (k + 1)) := Lib.hid (by
                    rw [List.take_add_one, List.getElem?_eq_getElem hkz]
                    have hx2 : ys[k] = (i : Int) := by rw [← hyi, List.getD_eq_getElem?_getD, List.getElem?_eq_getElem hkz]; rfl
                    simp only [Option.toList_some, hx2])
                  have HGET := Lib.hid (cget_any c zs b rv (byts Q) 0 0 _ wr HCK.out (by rw [HLEN.out]; omega) (by rw [HLEN.out]; omega) HW.out HRK.out (by have := hbl.out; omega) (by have := hcb.out; omega))
                  have HIZ := Lib.hid hiz
                  clear hyk hi hyi hkz hr hiz
                  go_wp2_with fail
                  refine HGET.out.mono ?_
                  rintro e w8 ⟨x, er, p', rfl, hP, h8a, h8b⟩
                  obtain ⟨rfl, rfl, hp'⟩ := getP_is HW.out HIZ.out HBG.out hP
                  have HR8 : Hid (IsReader w8 b rv (byts Q) 0 0 (encB zs (ys.take (k + 1))).length) := Lib.hid (by rw [HNX.out, ← hp']; exact h8a)
                  have HC8 : Hid (IsCode w8 c zs) := Lib.hid (HCK.out.other h8b (by have := hcb.out; intro h; omega))
                  have HO8 : Hid (OwnI w8 B7 (.slice oa k oc) (ys.take k)) := Lib.hid (HOW.out.same (fun j hj => by
                    have h1 := HOW.out.lt j hj
                    have h2 := hcb.out
                    exact h8b.block j h1.2 (by intro h; omega)))
                  have HB8 : Hid (Below w1'.heap.size w1' w8) := Lib.hid (HBK.out.trans (h8b.below HBK.out.size (fun j hj => by have h2 := hcb.out; omega)))
                  have HBS8 : Hid (B7 ≤ w8.heap.size) := Lib.hid (Nat.le_trans HBS.out h8b.size)
                  clear hP hp' h8a h8b HGET
                  go_wp2_with (at_builtin; go_loud (refine push_int w8 rfl _ _ rfl B7 (.slice oa k oc) (ys.take k) (i : Int) HO8.out rfl rfl (by rw [HLENK.out]; omega) HBS8.out ?_))
                  intro v' w9 hown hb9
                  have HO9 : Hid (OwnI w9 B7 v' (ys.take (k + 1))) := Lib.hid (by rw [← HTK.out]; exact hown)
                  have HR9 : Hid (IsReader w9 b rv (byts Q) 0 0 (encB zs (ys.take (k + 1))).length) := Lib.hid (HR8.out.other (touch_base hb9) (fun j hj => by have h1 := HL7.out j hj; rw [HB77.out] at h1; omega))
                  have HC9 : Hid (IsCode w9 c zs) := Lib.hid (HC8.out.other (touch_base hb9) (by have h1 := hcb.out; omega))
                  have HB9 : Hid (Below w1'.heap.size w1' w9) := Lib.hid (HB8.out.trans (hb9.mono (by have h1 := hcb.out; omega)))
                  have HBS9 : Hid (B7 ≤ w9.heap.size) := Lib.hid (Nat.le_trans HBS8.out hb9.size)
                  clear hown hb9
                  go_wp2_with fail
                  go_roundw
                  case rel => exact ⟨k + 1, by go_num, by omega, HO9.out, HR9.out, HC9.out, HB9.out, HBS9.out⟩
                  case measure => simp [intOf]; omega
                · have hki : ¬ (k : Int) < (slen : Int) := by omega
                  obtain rfl : k = slen := by omega
                  have hall : ys.take k = ys := List.take_of_length_le (by rw [HLEN2.out]; exact Nat.le_refl _)
                  rw [hall] at HOW HRK
                  have HINT := Lib.hid (ints_any _ _ ys ys true wr HOW.out.ints (HJ.out.below HBK.out) ⟨fun _ => rfl, fun _ => rfl⟩ (by rw [HLEN2.out]; omega) (by rw [HLEN2.out]; omega))
                  rw [HQ.out] at HRK
                  obtain ⟨L, hL⟩ : ∃ L, 8 * (0 + (byts Q).length) - q.length = L := ⟨_, rfl⟩
                  have hL8 : (L : Int) < 8 := by
                    have h1 := HQL.out
                    rw [byts_length] at hL
                    omega
                  have HL := Lib.hid hL
                  clear hall hL
                  go_wp2_with fail
                  refine HINT.out.mono ?_
                  rintro e w8 ⟨rfl, n8, hw8⟩
                  have HR8 : Hid (IsReader w8 b rv (byts Q) 0 0 q.length) := Lib.hid (by rw [hw8]; exact HRK.out.drewN n8)
                  have HB8 : Hid (Below w1'.heap.size w1' w8) := Lib.hid (by rw [hw8]; exact HBK.out.trans ((below_drewN _ n8).mono HBK.out.size))
                  clear hw8 HINT
                  go_wp2_with fail
                  refine (rleft_any b rv (byts Q) 0 0 q.length L w8 HR8.out (by have := hbl.out; omega) HL.out).mono ?_
                  rintro e w9 ⟨rfl, n9, hw9⟩
                  have HB9 : Hid (Below w1'.heap.size w1' w9) := Lib.hid (by rw [hw9]; exact HB8.out.trans ((below_drewN _ n9).mono HB8.out.size))
                  clear hw9
                  go_wp2_with fail
                  refine (H3.out _).mono ?_
                  rintro e w10 ⟨rfl, hb10⟩
                  have HB10 : Hid (Below w1'.heap.size w1' w10) := Lib.hid (HB9.out.trans (hb10.mono HB9.out.size))
                  clear hb10
                  go_wp2_with fail
                  go_ret
                  exact ⟨rfl, HB10.out⟩
        · have HO := Lib.hid (rOf_any _ ys (llen : Int) false w HJ.out (by rw [HLEN2.out]; omega) ⟨fun h => (by cases h), fun h => absurd h hy⟩)
          go_enter Try.func12, Try.ntmps12
          go_wp2_with fail
          refine HA.out.mono ?_
          rintro e w0 ⟨rfl, rfl⟩
          go_wp2_with fail
          refine HB.out.mono ?_
          rintro e w1 ⟨rfl, rfl⟩
          go_wp2_with fail
          refine HO.out.mono ?_
          rintro e w2 ⟨rfl, rfl⟩
          go_wp2_with fail
          refine (H3.out _).mono ?_
          rintro e w' ⟨rfl, hb⟩
          have HBB := Lib.hid hb
          clear hb
          go_wp2_with fail
          go_ret
          exact ⟨rfl, HBB.out⟩
      · have HB := Lib.hid (rWhole_any _ zs false w HI.out (by rw [HLEN.out]; omega) ⟨fun h => (by cases h), fun h => absurd h hwh⟩)
        go_enter Try.func12, Try.ntmps12
        go_wp2_with fail
        refine HA.out.mono ?_
        rintro e w0 ⟨rfl, rfl⟩
        go_wp2_with fail
        refine HB.out.mono ?_
        rintro e w1 ⟨rfl, rfl⟩
        go_wp2_with fail
        refine (H3.out _).mono ?_
        rintro e w' ⟨rfl, hb⟩
        have HBB := Lib.hid hb
        clear hb
        go_wp2_with fail
        go_ret
        exact ⟨rfl, HBB.out⟩
    · have HA := Lib.hid (csz_any _ zs false w HI.out (by rw [HLEN.out]; omega) ⟨fun h => (by cases h), fun h => absurd h (by rw [HLEN.out]; exact hsz)⟩)
      go_enter Try.func12, Try.ntmps12
      go_wp2_with fail
      refine HA.out.mono ?_
      rintro e w0 ⟨rfl, rfl⟩
      go_wp2_with fail
      refine (H3.out _).mono ?_
      rintro e w' ⟨rfl, hb⟩
      have HBB := Lib.hid hb
      clear hb
      go_wp2_with fail
      go_ret
      exact ⟨rfl, HBB.out⟩
  · have h200i : ¬ (slen : Int) ≤ 200 := by omega
    go_enter Try.func12, Try.ntmps12
    go_wp2_with fail
    refine (H3.out _).mono ?_
    rintro e w' ⟨rfl, hb⟩
    have HBB := Lib.hid hb
    clear hb
    go_wp2_with fail
    go_ret
    exact ⟨rfl, HBB.out⟩
end Go.Proofs.Ytclmnmfdajlddaa

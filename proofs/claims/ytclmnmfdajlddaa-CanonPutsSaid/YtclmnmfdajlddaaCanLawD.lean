/-
  LAYER 10's STATEMENTS: symbols written: CanonPuts.
-/
import Derived.Test.YtclmnmfdajlddaaCanRefC
import Derived.Test.YtclmnmfdajlddaaBitsPack
namespace Go.Proofs.Ytclmnmfdajlddaa
open Go.RowKit CanM HufM BitM
set_option linter.unusedVariables false
/-- The bits of those symbols that there are. -/
def encG (zs ys : List Int) : List Bool := ys.flatMap fun y => if 0 ≤ y ∧ y < (zs.length : Int) then code zs y.toNat else []
theorem encG_succ (zs : List Int) {ys : List Int} {k : Nat} (hk : k < ys.length) : encG zs (ys.take (k + 1)) = encG zs (ys.take k) ++ (if 0 ≤ ys.getD k 0 ∧ ys.getD k 0 < (zs.length : Int) then code zs (ys.getD k 0).toNat else []) := by
  unfold encG
  rw [List.take_add_one, List.flatMap_append, List.getElem?_eq_getElem hk, List.getD_eq_getElem?_getD, List.getElem?_eq_getElem hk]
  simp
theorem encG_len {zs ys : List Int} (hw : ∀ z ∈ zs, 1 ≤ z ∧ z ≤ 20) : (encG zs ys).length ≤ 20 * ys.length := by
  induction ys with
  | nil => exact Nat.le_refl _
  | cons y t ih =>
    unfold encG at ih ⊢
    rw [List.flatMap_cons, List.length_append, List.length_cons]
    split
    · have h3 := (ln_bd hw (i := y.toNat) (by omega)).2
      rw [code_length]
      omega
    · simp only [List.length_nil]
      omega
set_option maxRecDepth 100000 in
set_option maxHeartbeats 4000000 in
theorem canonPuts.walk (l : Option Addr) (llen lcap : Nat) (lz : List Int) (symbols : Option Addr) (slen scap : Nat) (sz_ : List Int) (w : World) (hl : IsRow .i64 w l llen lcap lz) (hs : IsRow .i64 w symbols slen scap sz_) :
    Calls Try.prog 10 #[.slice l llen lcap, .slice symbols slen scap] w fun e w' => e = .returned (.bool true) ∧ Below w.heap.size w w' := by
  obtain ⟨hI, hlen⟩ := ints_in hl
  obtain ⟨hl1, hl2⟩ := isRow_len hl
  obtain ⟨hJ, hlen2⟩ := ints_in hs
  obtain ⟨hs1, hs2⟩ := isRow_len hs
  generalize List.take llen lz = zs at *
  generalize List.take slen sz_ = ys at *
  have HI := Lib.hid hI
  have HJ := Lib.hid hJ
  have HLEN := Lib.hid hlen
  have HLEN2 := Lib.hid hlen2
  have h3 := fun W => canThree_any W
  have H3 := Lib.hid h3
  clear hl hI hlen h3 hs hJ hlen2
  by_cases h40 : llen ≤ 40
  · have h40i : ¬ (40 : Int) < (llen : Int) := by omega
    by_cases h60 : slen ≤ 60
    · have h60i : ¬ (60 : Int) < (slen : Int) := by omega
      by_cases hsz : SizeP llen
      · have HA := Lib.hid (csz_any _ zs true w HI.out (by rw [HLEN.out]; omega) ⟨fun _ => by rw [HLEN.out]; exact hsz, fun _ => rfl⟩)
        have hs258 := hsz.2
        have hs3 := hsz.1
        by_cases hwh : WholeP zs
        · have HB := Lib.hid (rWhole_any _ zs true w HI.out (by rw [HLEN.out]; omega) ⟨fun _ => hwh, fun _ => rfl⟩)
          have HW := Lib.hid hwh
          have HNY := Lib.hid (new_yes _ zs w HI.out (by rw [HLEN.out]; omega) (by rw [HLEN.out]; omega) hwh)
          have HEL : Hid (∀ k, (encG zs (ys.take k)).length ≤ 1200) := Lib.hid (fun k => by
            have h1 := encG_len (zs := zs) (ys := ys.take k) (fun z hz => HW.out.1 z hz)
            have h2 : (ys.take k).length ≤ slen := by rw [List.length_take, HLEN2.out]; omega
            omega)
          clear hwh
          go_enter Try.func10, Try.ntmps10
          go_wp2_with fail
          refine HA.out.mono ?_
          rintro e w1 ⟨rfl, rfl⟩
          go_wp2_with fail
          refine HB.out.mono ?_
          rintro e w1' ⟨rfl, rfl⟩
          go_wp2_with fail
          refine HNY.out.mono ?_
          rintro e w3 ⟨rfl, hC3, hB3⟩
          have HC3 := Lib.hid hC3
          have HB3 := Lib.hid hB3
          have HCS3 : Hid (w1'.heap.size < w3.heap.size) := Lib.hid (by obtain ⟨F, k, _⟩ := hC3; exact (Array.getElem?_eq_some_iff.1 k).1)
          clear hC3 hB3
          obtain ⟨c, hc⟩ : ∃ c, w1'.heap.size = c := ⟨_, rfl⟩
          rw [hc] at HC3 HCS3 ⊢
          have hcs := HCS3.out
          go_wp2_with fail
          refine (newWriter_any w3).mono ?_
          rintro e w4 ⟨rfl, hw4, hb4⟩
          obtain ⟨g, hg⟩ : ∃ g, w3.heap.size = g := ⟨_, rfl⟩
          have HW4 := Lib.hid hw4
          have HC4 : Hid (IsCode w4 c zs) := Lib.hid (HC3.out.other (Touch.ofBelow (S := fun _ => False) hb4) (fun h => h))
          have HB4 : Hid (Below w1'.heap.size w1' w4) := Lib.hid (HB3.out.trans (hb4.mono HB3.out.size))
          have hcg : Hid (c < g) := Lib.hid (by rw [← hg]; exact hcs)
          rw [hg] at HW4 ⊢
          have HCC := Lib.hid hc
          clear hw4 hb4 hc hg hcs HCS3
          have HI4 : Hid (IsInts w4 (.slice l llen lcap) zs) := Lib.hid (HI.out.below HB4.out)
          have HCD := Lib.hid (codes_any _ zs w4 HI4.out (by rw [HLEN.out]; omega) HW.out)
          rw [HLEN.out] at HCD
          go_wp2_with fail
          refine HCD.out.mono ?_
          rintro e w5 ⟨rfl, hR5, hB5⟩
          obtain ⟨G, hG⟩ : ∃ G, w4.heap.size = G := ⟨_, rfl⟩
          have HW5 : Hid (IsWriter w5 g (.slice none 0 0) [] 0) := Lib.hid (HW4.out.other (Touch.ofBelow (S := fun _ => False) hB5) (fun _ _ h => h))
          have HC5 : Hid (IsCode w5 c zs) := Lib.hid (HC4.out.other (Touch.ofBelow (S := fun _ => False) hB5) (fun h => h))
          have HBB5 : Hid (Below w1'.heap.size w1' w5) := Lib.hid (HB4.out.trans (hB5.mono HB4.out.size))
          have hgG : Hid (g < G) := Lib.hid (by rw [← hG]; exact (HW4.out.lt g (Or.inl rfl)).1)
          rw [hG] at hR5 ⊢
          have HR5 := Lib.hid hR5
          clear hR5 hB5 hG HCD HW4 HC4 HB4
          go_wp2_with fail
          go_loopw [9, 43] (fun va vi wr => ∃ (k : Nat) (v1 : Value), vi = .int .i64 (k : Int) ∧ k ≤ slen ∧ va = .string (txt (encG zs (ys.take k))) ∧ IsWriter wr g v1 (encG zs (ys.take k)) 0 ∧ (∀ j, v1.ownBlock = some j → G < j) ∧ IsCode wr c zs ∧ RowS wr G llen (fun j => txt (code zs j)) ∧ Below w1'.heap.size w1' wr) (fun _ vi _ => slen - (intOf vi).toNat)
          case atStart => exact ⟨0, _, rfl, by omega, rfl, HW5.out, (fun j hj => by simp [Value.ownBlock] at hj), HC5.out, HR5.out, HBB5.out⟩
          case round =>
            clear HW5 HC5 HBB5 HR5 HI4 HNY HA HB HC3 HB3
            obtain ⟨k, v1, rfl, hk, rfl, hWk, hfk, hCk, hRk, hBk⟩ := hrel
            have HWK := Lib.hid hWk
            have HFK := Lib.hid hfk
            have HCK := Lib.hid hCk
            have HRK := Lib.hid hRk
            have HBK := Lib.hid hBk
            have hGl : Hid (G < wr.heap.size) := Lib.hid hRk.lt
            have hsk : (txt (encG zs (ys.take k))).size ≤ 1200 := by rw [txt_size]; exact HEL.out k
            clear hWk hfk hCk hRk hBk
            by_cases hkl : k < slen
            · have hki : (k : Int) < (slen : Int) := by omega
              have hkz : k < ys.length := by rw [HLEN2.out]; exact hkl
              have HJK : Hid (IsInts wr (.slice symbols slen scap) ys) := Lib.hid (HJ.out.below HBK.out)
              obtain ⟨b1, o1, k1, he1, c1⟩ := HJK.out.cell hkz
              rw [HLEN2.out] at he1
              simp only [Value.slice.injEq] at he1
              obtain ⟨rfl, _, rfl⟩ := he1
              have hsucc := encG_succ zs hkz
              obtain ⟨y, hy⟩ : ∃ y, ys.getD k 0 = y := ⟨_, rfl⟩
              rw [hy] at hsucc c1
              obtain ⟨q, hq⟩ : ∃ q, encG zs (ys.take k) = q := ⟨_, rfl⟩
              obtain ⟨q2, hq2⟩ : ∃ q2, encG zs (ys.take (k + 1)) = q2 := ⟨_, rfl⟩
              have HEK := Lib.hid (HEL.out k)
              rw [hq] at HWK HEK hsucc hsk ⊢
              rw [hq2] at hsucc
              by_cases hin : 0 ≤ y ∧ y < (llen : Int)
              · obtain ⟨i, rfl⟩ : ∃ i : Nat, y = (i : Int) := ⟨y.toNat, by omega⟩
                have hil : (i : Int) < (llen : Int) := hin.2
                have hiz : i < zs.length := by rw [HLEN.out]; omega
                rw [HLEN.out, if_pos hin, show ((i : Int)).toNat = i from rfl] at hsucc
                have HSU := Lib.hid hsucc
                obtain ⟨d0, _, _⟩ := HRK.out.cell (i := i) (by omega)
                have HPUT := Lib.hid (cput_yes c g zs i v1 q 0 wr HCK.out (by rw [HLEN.out]; omega) HW.out hiz HWK.out (by have := HEK.out; omega))
                have hcl : (code zs i).length ≤ 20 := by rw [code_length]; exact (ln_bd (fun z hz => HW.out.1 z hz) hiz).2
                have hcs : (txt (code zs i)).size ≤ 20 := by rw [txt_size]; exact hcl
                have HTT : Hid (txt q ++ txt (code zs i) = txt q2) := Lib.hid (by rw [txt_append, HSU.out])
                have HQ2 := Lib.hid hq2
                clear hin hsucc hy hq hq2 hcl d0
                go_wp2_with fail
                refine HPUT.out.mono ?_
                rintro e w6 ⟨rfl, v2, h6a, h6b, h6c⟩
                have HW6 : Hid (IsWriter w6 g v2 q2 0) := Lib.hid (by rw [HSU.out]; exact h6a)
                have HF6 : Hid (∀ j, v2.ownBlock = some j → G < j) := Lib.hid (fun j hj => by
                  rcases h6c j hj with h | h
                  · exact HFK.out j h
                  · have h1 := hGl.out; omega)
                have HC6 : Hid (IsCode w6 c zs) := Lib.hid (HCK.out.other h6b (by
                  rintro (h | h)
                  · have h2 := hcg.out; omega
                  · have h2 := HFK.out c h; have h3 := hcg.out; have h4 := hgG.out; omega))
                have HR6 : Hid (RowS w6 G llen (fun j => txt (code zs j))) := Lib.hid (HRK.out.other h6b (by
                  rintro (h | h)
                  · have h2 := hgG.out; omega
                  · have h2 := HFK.out G h; omega))
                have HB6 : Hid (Below w1'.heap.size w1' w6) := Lib.hid (HBK.out.trans (h6b.below HBK.out.size (by
                  rintro j (h | h)
                  · have h2 := hcg.out; have h3 := HCC.out; omega
                  · have h2 := HFK.out j h; have h3 := HCC.out; have h4 := hcg.out; have h5 := hgG.out; omega)))
                obtain ⟨d0, _, _⟩ := HR6.out.cell (i := i) (by omega)
                clear h6a h6b h6c HPUT
                generalize txt (code zs i) = T at *
                generalize txt q = S at *
                go_wp2_with fail
                go_roundw
                case rel => exact ⟨k + 1, v2, by go_num, by omega, by rw [HQ2.out, ← HTT.out], by rw [HQ2.out]; exact HW6.out, HF6.out, HC6.out, HR6.out, HB6.out⟩
                case measure => simp [intOf]; omega
              · have hbad : y < 0 ∨ (zs.length : Int) ≤ y := by rw [HLEN.out]; omega
                rw [HLEN.out, if_neg hin, List.append_nil] at hsucc
                subst hsucc
                have HQ2 := Lib.hid hq2
                have HPUT := Lib.hid (cput_bad c g zs y wr HCK.out (by rw [HLEN.out]; omega) hbad)
                by_cases hy0 : y < 0
                · clear hin hbad hy hq hq2
                  generalize hS : txt q2 = S at *
                  have HS := Lib.hid hS
                  clear hS
                  go_wp2_with fail
                  refine HPUT.out.mono ?_
                  rintro e w6 ⟨rfl, rfl⟩
                  go_wp2_with fail
                  go_roundw
                  case rel => exact ⟨k + 1, v1, by go_num, by omega, by rw [HQ2.out, HS.out], by rw [HQ2.out]; exact HWK.out, HFK.out, HCK.out, HRK.out, HBK.out⟩
                  case measure => simp [intOf]; omega
                · have hyl : (llen : Int) ≤ y := by omega
                  clear hin hbad hy hq hq2
                  generalize hS : txt q2 = S at *
                  have HS := Lib.hid hS
                  clear hS
                  go_wp2_with fail
                  refine HPUT.out.mono ?_
                  rintro e w6 ⟨rfl, rfl⟩
                  go_wp2_with fail
                  go_roundw
                  case rel => exact ⟨k + 1, v1, by go_num, by omega, by rw [HQ2.out, HS.out], by rw [HQ2.out]; exact HWK.out, HFK.out, HCK.out, HRK.out, HBK.out⟩
                  case measure => simp [intOf]; omega
            · have hki : ¬ (k : Int) < (slen : Int) := by omega
              have HEK := Lib.hid (HEL.out k)
              obtain ⟨q, hq⟩ : ∃ q, encG zs (ys.take k) = q := ⟨_, rfl⟩
              rw [hq] at HWK HEK hsk ⊢
              have HQL : Hid ((txt q).size = q.length) := Lib.hid (txt_size q)
              have hqs : (q.length : Int) = ((txt q).size : Int) := by have := HQL.out; omega
              have HPK := Lib.hid (fun W => pack_any q W (by have := HEK.out; omega))
              clear hq
              go_wp2_with fail
              refine (wlen_any g v1 q 0 wr HWK.out).mono ?_
              rintro e w6 ⟨rfl, rfl⟩
              rw [hqs]
              clear hqs
              generalize txt q = S at *
              go_wp2_with fail
              refine (wpad_any g v1 q 0 wr HWK.out (by have := HEK.out; omega)).mono ?_
              rintro e w7 ⟨rfl, v2, h7a, h7b, h7c⟩
              obtain ⟨Q, hQ⟩ : ∃ Q, q ++ padding q = Q := ⟨_, rfl⟩
              rw [hQ] at h7a HPK
              have HW7 := Lib.hid h7a
              have HF7 : Hid (∀ j, v2.ownBlock = some j → G < j) := Lib.hid (fun j hj => by
                rcases h7c j hj with h | h
                · exact HFK.out j h
                · have h1 := hGl.out; omega)
              have HB7 : Hid (Below w1'.heap.size w1' w7) := Lib.hid (HBK.out.trans (h7b.below HBK.out.size (by
                rintro j (h | h)
                · have h2 := hcg.out; have h3 := HCC.out; omega
                · have h2 := HFK.out j h; have h3 := HCC.out; have h4 := hcg.out; have h5 := hgG.out; omega)))
              clear h7a h7b h7c hQ
              go_wp2_with fail
              refine (wtake_any g v2 Q 0 w7 HW7.out).mono ?_
              rintro e w8 ⟨rfl, h8a, h8b⟩
              have HB8 : Hid (Below w1'.heap.size w1' w8) := Lib.hid (HB7.out.trans (h8b.below HB7.out.size (by
                rintro j (h | h)
                · have h2 := hcg.out; have h3 := HCC.out; omega
                · have h2 := HF7.out j h; have h3 := HCC.out; have h4 := hcg.out; have h5 := hgG.out; omega)))
              rw [List.drop_zero]
              clear h8a h8b
              go_wp2_with fail
              refine (HPK.out w8).mono ?_
              rintro e w9 ⟨rfl, hb9⟩
              have HB9 : Hid (Below w1'.heap.size w1' w9) := Lib.hid (HB8.out.trans (hb9.mono HB8.out.size))
              clear hb9
              generalize (⟨(byts Q).toArray⟩ : ByteArray) = T at *
              go_wp2_with fail
              refine (H3.out _).mono ?_
              rintro e w10 ⟨rfl, hb10⟩
              have HB10 : Hid (Below w1'.heap.size w1' w10) := Lib.hid (HB9.out.trans (hb10.mono HB9.out.size))
              clear hb10
              go_wp2_with fail
              go_ret
              exact ⟨rfl, by first | exact HB10.out | (rw [← HCC.out]; exact HB10.out)⟩
        · have HB := Lib.hid (rWhole_any _ zs false w HI.out (by rw [HLEN.out]; omega) ⟨fun h => (by cases h), fun h => absurd h hwh⟩)
          go_enter Try.func10, Try.ntmps10
          go_wp2_with fail
          refine HA.out.mono ?_
          rintro e w1 ⟨rfl, rfl⟩
          go_wp2_with fail
          refine HB.out.mono ?_
          rintro e w2 ⟨rfl, rfl⟩
          go_wp2_with fail
          refine (H3.out _).mono ?_
          rintro e w' ⟨rfl, hb⟩
          have HBB := Lib.hid hb
          clear hb
          go_wp2_with fail
          go_ret
          exact ⟨rfl, HBB.out⟩
      · have HA := Lib.hid (csz_any _ zs false w HI.out (by rw [HLEN.out]; omega) ⟨fun h => (by cases h), fun h => absurd h (by rw [HLEN.out]; exact hsz)⟩)
        go_enter Try.func10, Try.ntmps10
        go_wp2_with fail
        refine HA.out.mono ?_
        rintro e w1 ⟨rfl, rfl⟩
        go_wp2_with fail
        refine (H3.out _).mono ?_
        rintro e w' ⟨rfl, hb⟩
        have HBB := Lib.hid hb
        clear hb
        go_wp2_with fail
        go_ret
        exact ⟨rfl, HBB.out⟩
    · have h60i : (60 : Int) < (slen : Int) := by omega
      go_enter Try.func10, Try.ntmps10
      go_wp2_with fail
      refine (H3.out _).mono ?_
      rintro e w' ⟨rfl, hb⟩
      have HBB := Lib.hid hb
      clear hb
      go_wp2_with fail
      go_ret
      exact ⟨rfl, HBB.out⟩
  · have h40i : (40 : Int) < (llen : Int) := by omega
    go_enter Try.func10, Try.ntmps10
    go_wp2_with fail
    refine (H3.out _).mono ?_
    rintro e w' ⟨rfl, hb⟩
    have HBB := Lib.hid hb
    clear hb
    go_wp2_with fail
    go_ret
    exact ⟨rfl, HBB.out⟩
end Go.Proofs.Ytclmnmfdajlddaa

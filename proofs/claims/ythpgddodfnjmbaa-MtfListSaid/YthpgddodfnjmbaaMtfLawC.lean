/-
  LAYER 6's STATEMENTS: MtfList.
-/
import Derived.Test.YthpgddodfnjmbaaMtfLawA
import Derived.Test.YthpgddodfnjmbaaOpen
namespace Go.Proofs.Ythpgddodfnjmbaa
open Go.RowKit UsedM MtfM
set_option linter.unusedVariables false
/-- A byte that is looked for, or a place that is asked. -/
structure MOp where
  A : Bool
  B : UInt8
  I : Int
def MOp.cells (o : MOp) : List Value := [.bool o.A, .int .u8 (o.B.toNat : Int), .int .i64 o.I]
structure MOp.Ok (o : MOp) : Prop where
  n1 : -9223372036854775808 ≤ o.I
  n2 : o.I ≤ 9223372036854775807
/-- WHAT A WALK IS TOLD OF A ROW OF OPERATIONS THAT CAME IN. -/
def IsMOps (w : World) (a : Option Addr) (len : Nat) (l : List MOp) : Prop := Opn.IsElems w a len 3 MOp.cells l ∧ (∀ x ∈ l, MOp.Ok x) ∧ len ≤ maxLen
theorem IsMOps.at_ {w w' : World} {a : Option Addr} {len : Nat} {l : List MOp} (h : IsMOps w a len l) (hb : Below w.heap.size w w') {k : Nat} (hk : k < len) : ∃ o b off, MOp.Ok o ∧ a = some ⟨b, off, none⟩ ∧
    w'.cell? ⟨b, off + k * 3, none⟩ = some (.bool o.A) ∧ w'.cell? ⟨b, off + k * 3 + 1, none⟩ = some (.int .u8 (o.B.toNat : Int)) ∧ w'.cell? ⟨b, off + k * 3 + 2, none⟩ = some (.int .i64 o.I) := by
  obtain ⟨⟨hl, he⟩, hok, _⟩ := h
  have hx : l[k]? = some (l[k]'(by omega)) := List.getElem?_eq_getElem _
  obtain ⟨b, off, ha, hlt, hc⟩ := he k _ hx
  refine ⟨l[k]'(by omega), b, off, hok _ (List.getElem_mem _), ha, ?_, ?_, ?_⟩
  · exact (hb.cell (p := ⟨b, off + k * 3, none⟩) hlt).trans (hc 0 _ rfl)
  · exact (hb.cell (p := ⟨b, off + k * 3 + 1, none⟩) hlt).trans (hc 1 _ rfl)
  · exact (hb.cell (p := ⟨b, off + k * 3 + 2, none⟩) hlt).trans (hc 2 _ rfl)
open Go.ChangeShapes Go.WideShapes Go.ChangeAt Go.Deep in
theorem open_mops {H : Type} {enc : TypeId × Value → H} {P : Program} {W : World} {base : Nat} {t e : TypeId} {v : Value} {d : DataW H} {p : List MemPlace}
    (ht : P.underlying t = some (.slice e)) (hk : Opn.kinds P 2 e = some [.bool, .int .u8, .int .i64]) (hm : P.cellsOf e = 3)
    (hv : Value.okWide P W .any base t v) (h : DataW.Trod enc P W 0 (fun _ => true) true t v d p) : ∃ a len cap l, v = .slice a len cap ∧ IsMOps W a len l := by
  refine Opn.open_elems 3 2 _ MOp.cells MOp.Ok ht hk hm (by omega) (fun vs hall => ?_) hv h
  have hl := hall.length
  obtain ⟨x0, x1, x2, rfl⟩ : ∃ x0 x1 x2, vs = [x0, x1, x2] := by
    rcases vs with _ | ⟨x0, _ | ⟨x1, _ | ⟨x2, _ | ⟨x3, r⟩⟩⟩⟩
    · cases hl
    · cases hl
    · cases hl
    · exact ⟨_, _, _, rfl⟩
    · simp at hl
  obtain ⟨⟨q0, e0⟩, ⟨q1, e1, h1⟩, ⟨q2, e2, h2⟩, _⟩ := hall
  have w1 : 0 ≤ q1 ∧ q1 ≤ 255 := by
    simp only [Lit.wf, Bool.and_eq_true, decide_eq_true_eq] at h1; exact h1
  have w2 : -9223372036854775808 ≤ q2 ∧ q2 ≤ 9223372036854775807 := by
    simp only [Lit.wf, Bool.and_eq_true, decide_eq_true_eq] at h2; exact h2
  refine ⟨⟨q0, UInt8.ofNat q1.toNat, q2⟩, ?_, w2.1, w2.2⟩
  have hb : ((UInt8.ofNat q1.toNat).toNat : Int) = q1 := by
    rw [UInt8.toNat_ofNat', Nat.mod_eq_of_lt (by omega)]
    omega
  rw [e0, e1, e2]
  show _ = [Value.bool q0, Value.int .u8 ((UInt8.ofNat q1.toNat).toNat : Int), Value.int .i64 q2]
  rw [hb]
/-- The copy of an operation, behind a call that may write one block. -/
theorem mcopy {w w' : World} {o : MOp} {b : Nat} (h : Touch (· = b) (w.alloc (.cells #[.bool o.A, .int .u8 (o.B.toNat : Int), .int .i64 o.I] 54)) w') (hb : b < w.heap.size) :
    w'.cell? ⟨w.heap.size, 0, none⟩ = some (.bool o.A) ∧ w'.cell? ⟨w.heap.size, 1, none⟩ = some (.int .u8 (o.B.toNat : Int)) ∧ w'.cell? ⟨w.heap.size, 2, none⟩ = some (.int .i64 o.I) := by
  have hh := (h.block w.heap.size (by simp) (fun e => by have e' : w.heap.size = b := e; omega)).trans (heap_alloc_new w _)
  refine ⟨?_, ?_, ?_⟩ <;> (rw [cell_of_row _ _ _ _ _ _ hh]; rfl)
set_option maxRecDepth 100000 in
set_option maxHeartbeats 2000000 in
theorem mtfList.near (t : ByteArray) (a : Option Addr) (len cap : Nat) (l : List MOp) (w : World) (ht : t.size ≤ 256) (hlen : len ≤ 60) (hl : IsMOps w a len l) (hy : IsSyms t.data.toList) :
    Calls Try.prog 9 #[.string t, .slice a len cap] w fun e w' => e = .returned (.bool true) ∧ Below w.heap.size w w' := by
  have hti : (t.size : Int) ≤ 256 := by omega
  have hli : (len : Int) ≤ 60 := by omega
  have hlt : t.data.toList.length = t.size := rfl
  have H := Lib.hid hl
  have HNEW := Lib.hid (new_yes t w ht hy)
  have HIS := Lib.hid (fun w => refIs_any t true w (by omega) ⟨fun _ => hy, fun _ => rfl⟩)
  clear hl hy
  go_enter Try.func9, Try.ntmps9
  go_wp2_with fail
  refine HNEW.out.mono ?_
  rintro e w1 ⟨rfl, hL, hB⟩
  have HL := Lib.hid hL
  have HB := Lib.hid hB
  clear hL hB
  go_wp2_with fail
  refine (HIS.out w1).mono ?_
  rintro e w2 ⟨rfl, hb⟩
  have HL2 := Lib.hid (HL.out.below hb HL.out.lt)
  have HB2 := Lib.hid (HB.out.trans (hb.mono HB.out.size))
  clear hb HL HB
  go_wp2_with fail
  go_loopw [7, 44] (fun d i wr => ∃ (k : Nat) (m : List UInt8), k ≤ len ∧ i = .int .i64 k ∧ d = .string ⟨m.toArray⟩ ∧ m.length = t.size ∧ IsList wr w.heap.size m ∧ Below w.heap.size w wr) (fun _ i _ => len - (intOf i).toNat)
  case atStart => exact ⟨0, t.data.toList, by omega, rfl, congrArg Value.string (text_eq t), rfl, HL2.out, HB2.out⟩
  case round =>
    clear HL2 HB2
    obtain ⟨k, m, hk, rfl, rfl, hm, hL, hB⟩ := hrel
    have HL := Lib.hid hL
    have HB := Lib.hid hB
    have hbw := hL.lt
    clear hL hB
    have HM := Lib.hid hm
    have hmt : (⟨m.toArray⟩ : ByteArray).data.toList = m := rfl
    have hsz : (⟨m.toArray⟩ : ByteArray).size = t.size := by rw [text_size, hm]
    have HTX := Lib.hid (fun w' (h : IsList w' w.heap.size m) => mtext_any w.heap.size m w' h)
    have HLN : Hid (∀ w' m', m'.length = t.size → IsList w' w.heap.size m' → Calls Try.prog 45 #[.pointer (some ⟨w.heap.size, 0, none⟩)] w' fun e w'' => e = .returned (.int .i64 (t.size : Int)) ∧ w' = w'') := Lib.hid (fun w' m' h1 h2 => by
      have := mlen_any w.heap.size m' w' h2
      rwa [h1] at this)
    by_cases hlk : k < len
    · have hki : (k : Int) < (len : Int) := by omega
      obtain ⟨o, b, off, hok, rfl, c0, c1, c2⟩ := H.out.at_ HB.out hlk
      have hn1 := hok.n1
      have hn2 := hok.n2
      have hob := o.B.toNat_lt
      have HPL := Lib.hid (fun w' => place_any ⟨m.toArray⟩ o.B w' (by omega))
      rw [hmt] at HPL
      have HBA := Lib.hid (HB.out.alloc HB.out.size (.cells #[.bool o.A, .int .u8 (o.B.toNat : Int), .int .i64 o.I] 54))
      have HLA := Lib.hid (HL.out.below ((Below.refl wr.heap.size wr).alloc (Nat.le_refl _) (.cells #[.bool o.A, .int .u8 (o.B.toNat : Int), .int .i64 o.I] 54)) hbw)
      have HCP := Lib.hid (fun w' (h : Touch (· = w.heap.size) (wr.alloc (.cells #[.bool o.A, .int .u8 (o.B.toNat : Int), .int .i64 o.I] 54)) w') => mcopy h hbw)
      obtain ⟨A, hA⟩ : ∃ A, o.A = A := ⟨_, rfl⟩
      clear hok hmt
      cases A with
      | true =>
        rw [hA] at c0 HBA HLA HCP
        by_cases hbad : o.I < 0 ∨ (m.length : Int) ≤ o.I
        · have HAT := Lib.hid (fun w' (h : IsList w' w.heap.size m) => at_bad w.heap.size o.I m w' h hbad)
          rw [hm] at hbad
          generalize hT : (⟨m.toArray⟩ : ByteArray) = T at *
          have HTT := Lib.hid hT
          clear hT
          rcases hbad with hbad | hbad
          · go_wp2_with fail
            refine (HPL.out _).mono ?_
            rintro e w' ⟨rfl, rfl⟩
            go_wp2_with fail
            refine (HAT.out _ HLA.out).mono ?_
            rintro e w' ⟨rfl, rfl⟩
            go_wp2_with fail
            refine (HTX.out _ HLA.out).mono ?_
            rintro e w7 ⟨rfl, n7, rfl⟩
            go_wp2_with fail
            refine (HLN.out _ _ HM.out (IsList.drewN HLA.out n7)).mono ?_
            rintro e w' ⟨rfl, rfl⟩
            have HB7 := Lib.hid ((HBA.out).trans ((below_drewN _ n7).mono (HBA.out).size))
            have HL7 := Lib.hid (IsList.drewN HLA.out n7)
            go_wp2_with fail
            go_roundw
            case rel => exact ⟨k + 1, m, by omega, by go_num, by rw [HTT.out], HM.out, HL7.out, HB7.out⟩
            case measure => simp [intOf]; omega
          · have hi0 : 0 ≤ o.I := by omega
            go_wp2_with fail
            refine (HPL.out _).mono ?_
            rintro e w' ⟨rfl, rfl⟩
            go_wp2_with fail
            refine (HAT.out _ HLA.out).mono ?_
            rintro e w' ⟨rfl, rfl⟩
            go_wp2_with fail
            refine (HTX.out _ HLA.out).mono ?_
            rintro e w7 ⟨rfl, n7, rfl⟩
            go_wp2_with fail
            refine (HLN.out _ _ HM.out (IsList.drewN HLA.out n7)).mono ?_
            rintro e w' ⟨rfl, rfl⟩
            have HB7 := Lib.hid ((HBA.out).trans ((below_drewN _ n7).mono (HBA.out).size))
            have HL7 := Lib.hid (IsList.drewN HLA.out n7)
            go_wp2_with fail
            go_roundw
            case rel => exact ⟨k + 1, m, by omega, by go_num, by rw [HTT.out], HM.out, HL7.out, HB7.out⟩
            case measure => simp [intOf]; omega
        · obtain ⟨i, hi⟩ : ∃ i : Nat, o.I = (i : Int) := ⟨o.I.toNat, by omega⟩
          have him : i < m.length := by omega
          obtain ⟨x, hx⟩ : ∃ x, m[i]? = some x := ⟨m[i], List.getElem?_eq_getElem him⟩
          rw [hi] at c2 HBA HLA HCP
          have HAT := Lib.hid (fun w' (h : IsList w' w.heap.size m) => at_any w.heap.size i x m w' h hx)
          have HTO := Lib.hid (fun w' => rtouch_any m i w' him (by omega))
          have HTX2 := Lib.hid (fun w' (h : IsList w' w.heap.size (touch m i)) => mtext_any w.heap.size (touch m i) w' h)
          have HM2 := Lib.hid (show (touch m i).length = t.size by rw [touch_length m i him]; exact hm)
          have hit : i < (⟨m.toArray⟩ : ByteArray).size := by rw [hsz]; omega
          have hxe : (⟨m.toArray⟩ : ByteArray)[i] = x := by
            have h1 : (⟨m.toArray⟩ : ByteArray).data.toList[i]'(by simpa using him) = x := by
              have := (List.getElem?_eq_some_iff.1 hx).2
              simpa using this
            exact h1
          have hi1 : (i : Int) < (t.size : Int) := by omega
          have hi0 : (0 : Int) ≤ (i : Int) := by omega
          have hin : decide ((i : Int) < 0) = false := by simp only [decide_eq_false_iff_not]; omega
          have hxl := x.toNat_lt
          generalize hT2 : (⟨(touch m i).toArray⟩ : ByteArray) = T2 at *
          have HTT2 := Lib.hid hT2
          generalize (⟨m.toArray⟩ : ByteArray) = T at *
          clear hT2 hbad hx him
          go_wp2_with fail
          refine (HPL.out _).mono ?_
          rintro e w' ⟨rfl, rfl⟩
          go_wp2_with fail
          refine (HAT.out _ HLA.out).mono ?_
          rintro e w5 ⟨rfl, h1, h2⟩
          obtain ⟨d0, d1, d2⟩ := HCP.out w5 h2
          have HL5 := Lib.hid h1
          have HB5 := Lib.hid (HBA.out.trans (h2.below HBA.out.size (fun j hj => Nat.le_of_eq (Eq.symm hj))))
          clear h1 h2
          go_wp2_with fail
          refine (HTO.out _).mono ?_
          rintro e w6 ⟨rfl, n6, hw6⟩
          have HL6 : Hid (IsList w6 w.heap.size (touch m i)) := Lib.hid (by rw [hw6]; exact HL5.out.drewN n6)
          have HB6 : Hid (Below w.heap.size w w6) := Lib.hid (by rw [hw6]; exact HB5.out.trans ((below_drewN w5 n6).mono HB5.out.size))
          clear hw6
          go_wp2_with fail
          refine (HTX2.out _ HL6.out).mono ?_
          rintro e w7 ⟨rfl, n7, rfl⟩
          go_wp2_with fail
          refine (HLN.out _ _ HM2.out (IsList.drewN HL6.out n7)).mono ?_
          rintro e w' ⟨rfl, rfl⟩
          have HB7 := Lib.hid ((HB6.out).trans ((below_drewN _ n7).mono (HB6.out).size))
          have HL7 := Lib.hid (IsList.drewN HL6.out n7)
          go_wp2_with fail
          go_roundw
          case rel => exact ⟨k + 1, touch m i, by omega, by go_num, by rw [HTT2.out], HM2.out, HL7.out, HB7.out⟩
          case measure => simp [intOf]; omega
      | false =>
        rw [hA] at c0 HBA HLA HCP
        rcases place_cases m o.B with hp | ⟨i, hp, him, hx⟩
        · have HFI := Lib.hid (fun w' (h : IsList w' w.heap.size m) => find_none w.heap.size o.B m w' h hp)
          rw [hp] at HPL
          generalize hT : (⟨m.toArray⟩ : ByteArray) = T at *
          have HTT := Lib.hid hT
          clear hT hp
          go_wp2_with fail
          refine (HPL.out _).mono ?_
          rintro e w' ⟨rfl, rfl⟩
          go_wp2_with fail
          refine (HFI.out _ HLA.out).mono ?_
          rintro e w5 ⟨rfl, n5, hw5⟩
          have HL5 : Hid (IsList w5 w.heap.size m) := Lib.hid (by rw [hw5]; exact HLA.out.drewN n5)
          have HB5 : Hid (Below w.heap.size w w5) := Lib.hid (by rw [hw5]; exact HBA.out.trans ((below_drewN _ n5).mono HBA.out.size))
          clear hw5
          go_wp2_with fail
          refine (HTX.out _ HL5.out).mono ?_
          rintro e w7 ⟨rfl, n7, rfl⟩
          go_wp2_with fail
          refine (HLN.out _ _ HM.out (IsList.drewN HL5.out n7)).mono ?_
          rintro e w' ⟨rfl, rfl⟩
          have HB7 := Lib.hid ((HB5.out).trans ((below_drewN _ n7).mono (HB5.out).size))
          have HL7 := Lib.hid (IsList.drewN HL5.out n7)
          go_wp2_with fail
          go_roundw
          case rel => exact ⟨k + 1, m, by omega, by go_num, by rw [HTT.out], HM.out, HL7.out, HB7.out⟩
          case measure => simp [intOf]; omega
        · have HFI := Lib.hid (fun w' (h : IsList w' w.heap.size m) => find_some w.heap.size i o.B m w' h hp hx)
          rw [hp] at HPL
          have HTO := Lib.hid (fun w' => rtouch_any m i w' him (by omega))
          have HTX2 := Lib.hid (fun w' (h : IsList w' w.heap.size (touch m i)) => mtext_any w.heap.size (touch m i) w' h)
          have HM2 := Lib.hid (show (touch m i).length = t.size by rw [touch_length m i him]; exact hm)
          have hi0 : (0 : Int) ≤ (i : Int) := by omega
          have hib : (i : Int) ≤ 256 := by omega
          have hin : decide ((i : Int) < 0) = false := by simp only [decide_eq_false_iff_not]; omega
          generalize hT2 : (⟨(touch m i).toArray⟩ : ByteArray) = T2 at *
          have HTT2 := Lib.hid hT2
          generalize (⟨m.toArray⟩ : ByteArray) = T at *
          clear hT2 hp hx him
          go_wp2_with fail
          refine (HPL.out _).mono ?_
          rintro e w' ⟨rfl, rfl⟩
          go_wp2_with fail
          refine (HFI.out _ HLA.out).mono ?_
          rintro e w5 ⟨rfl, h1, h2⟩
          have HL5 := Lib.hid h1
          have HB5 := Lib.hid (HBA.out.trans (h2.below HBA.out.size (fun j hj => Nat.le_of_eq (Eq.symm hj))))
          clear h1 h2
          go_wp2_with fail
          refine (HTO.out _).mono ?_
          rintro e w6 ⟨rfl, n6, hw6⟩
          have HL6 : Hid (IsList w6 w.heap.size (touch m i)) := Lib.hid (by rw [hw6]; exact HL5.out.drewN n6)
          have HB6 : Hid (Below w.heap.size w w6) := Lib.hid (by rw [hw6]; exact HB5.out.trans ((below_drewN w5 n6).mono HB5.out.size))
          clear hw6
          go_wp2_with fail
          refine (HTX2.out _ HL6.out).mono ?_
          rintro e w7 ⟨rfl, n7, rfl⟩
          go_wp2_with fail
          refine (HLN.out _ _ HM2.out (IsList.drewN HL6.out n7)).mono ?_
          rintro e w' ⟨rfl, rfl⟩
          have HB7 := Lib.hid ((HB6.out).trans ((below_drewN _ n7).mono (HB6.out).size))
          have HL7 := Lib.hid (IsList.drewN HL6.out n7)
          go_wp2_with fail
          go_roundw
          case rel => exact ⟨k + 1, touch m i, by omega, by go_num, by rw [HTT2.out], HM2.out, HL7.out, HB7.out⟩
          case measure => simp [intOf]; omega
    · obtain rfl : k = len := by omega
      generalize (⟨m.toArray⟩ : ByteArray) = T at *
      go_wp2_with fail
      refine (HTX.out _ HL.out).mono ?_
      rintro e w7 ⟨rfl, n7, rfl⟩
      have HB7 := Lib.hid (HB.out.trans ((below_drewN wr n7).mono HB.out.size))
      go_wp2_with fail
      refine (bab_any _).mono ?_
      rintro e w8 ⟨rfl, hb⟩
      have HB8 := Lib.hid (HB7.out.trans (hb.mono HB7.out.size))
      clear hb
      go_wp2_with fail
      go_ret
      exact ⟨rfl, HB8.out⟩
set_option maxRecDepth 100000 in
set_option maxHeartbeats 1000000 in
theorem mtfList.walk (symbols : ByteArray) (ops : Option Addr) (len cap : Nat) (ls : List MOp) (w : World) (hs : symbols.size ≤ maxLen) (hl : IsMOps w ops len ls) :
    Calls Try.prog 9 #[.string symbols, .slice ops len cap] w fun e w' => e = .returned (.bool true) ∧ Below w.heap.size w w' := by
  by_cases h1 : symbols.size ≤ 256
  · have h1i : (symbols.size : Int) ≤ 256 := by omega
    by_cases h2 : len ≤ 60
    · have h2i : (len : Int) ≤ 60 := by omega
      by_cases hy : IsSyms symbols.data.toList
      · exact mtfList.near symbols ops len cap ls w h1 h2 hl hy
      · have HNEW := Lib.hid (new_no symbols w (by omega) hy)
        have HIS := Lib.hid (fun w => refIs_any symbols false w (by omega) ⟨fun e => (by cases e), fun e => absurd e hy⟩)
        clear hl hy
        go_enter Try.func9, Try.ntmps9
        go_wp2_with fail
        refine HNEW.out.mono ?_
        rintro e w' ⟨rfl, n, rfl⟩
        have HB1 := Lib.hid (below_drewN w n)
        go_wp2_with fail
        refine (HIS.out _).mono ?_
        rintro e w2 ⟨rfl, hb⟩
        have HB2 := Lib.hid (HB1.out.trans (hb.mono HB1.out.size))
        clear hb
        go_wp2_with fail
        refine (bab_any _).mono ?_
        rintro e w4 ⟨rfl, hb⟩
        have HB4 := Lib.hid (HB2.out.trans (hb.mono HB2.out.size))
        clear hb
        go_wp2_with fail
        go_ret
        exact ⟨rfl, HB4.out⟩
    · have h2i : (60 : Int) < (len : Int) := by omega
      clear hl
      go_enter Try.func9, Try.ntmps9
      go_wp2_with fail
      refine (bab_any _).mono ?_
      rintro e w4 ⟨rfl, hb⟩
      have HB4 := Lib.hid hb
      clear hb
      go_wp2_with fail
      go_ret
      exact ⟨rfl, HB4.out⟩
  · have h1i : (256 : Int) < (symbols.size : Int) := by omega
    clear hl
    go_enter Try.func9, Try.ntmps9
    go_wp2_with fail
    refine (bab_any _).mono ?_
    rintro e w4 ⟨rfl, hb⟩
    have HB4 := Lib.hid hb
    clear hb
    go_wp2_with fail
    go_ret
    exact ⟨rfl, HB4.out⟩
end Go.Proofs.Ythpgddodfnjmbaa

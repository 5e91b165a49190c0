/-
  LAYER 6's STATEMENTS: MtfBack, MtfForth.
-/
import Derived.Test.YthpgddodfnjmbaaMtfLawA
import Derived.Test.YthpgddodfnjmbaaUsedLawA
namespace Go.Proofs.Ythpgddodfnjmbaa
open Go.RowKit UsedM MtfM
set_option linter.unusedVariables false
/-! ### There and back, as plain mathematics -/
theorem encK_full {l s : List UInt8} {k : Nat} {zs : List Int} {m : List UInt8} (h : encK l s k = some (zs, m)) (hk : k < s.length) (hm : s[k] ∈ m) :
    ∃ o : Nat, m[o]? = some s[k] ∧ Lib.indexByte m s[k] = (o : Int) ∧ encK l s (k + 1) = some (zs ++ [(o : Int)], touch m o) := by
  obtain ⟨o, h1, h2, h3⟩ := place_mem hm
  refine ⟨o, h3, h1, ?_⟩
  have hgd : s.getD k 0 = s[k] := by rw [List.getD_eq_getElem?_getD, List.getElem?_eq_getElem hk]; rfl
  rw [encK_succ, h, hgd]
  simp only [h1]
  rw [if_neg (by omega)]
  rfl
/-- Of a text's own bytes: there is a place for each, and the order keeps them. -/
theorem encK_own (l s : List UInt8) (hl : ∀ x, x ∈ s → x ∈ l) : ∀ k, k ≤ s.length → ∃ zs m, encK l s k = some (zs, m) ∧ (∀ x, x ∈ m ↔ x ∈ l)
  | 0, _ => ⟨[], l, rfl, fun x => Iff.rfl⟩
  | k + 1, hk => by
    obtain ⟨zs, m, h, hm⟩ := encK_own l s hl k (by omega)
    obtain ⟨o, h1, h2, h3⟩ := encK_full h (by omega) ((hm _).2 (hl _ (List.getElem_mem _)))
    have ho := (List.getElem?_eq_some_iff.1 h1).1
    exact ⟨_, _, h3, fun x => (touch_mem m o ho x).trans (hm x)⟩
/-- What stands at a place of what Encode tells. -/
theorem encK_pre (l s : List UInt8) : ∀ (d k : Nat) zs m ys n, encK l s k = some (zs, m) → encK l s (k + d) = some (ys, n) → ∃ t, ys = zs ++ t
  | 0, k, zs, m, ys, n, h, h2 => by
    rw [Nat.add_zero, h] at h2
    cases h2
    exact ⟨[], by simp⟩
  | d + 1, k, zs, m, ys, n, h, h2 => by
    rw [← Nat.add_assoc, encK_succ] at h2
    split at h2
    · cases h2
    · rename_i us o ho
      obtain ⟨t, ht⟩ := encK_pre l s d k zs m us o h ho
      split at h2
      · cases h2
      · cases h2
        exact ⟨t ++ [Lib.indexByte o (s.getD (k + d) 0)], by rw [ht, List.append_assoc]⟩
/-- The order behind the first k bytes. -/
theorem encK_at {l s : List UInt8} {ys : List Int} {n : List UInt8} (h : encK l s s.length = some (ys, n)) (k : Nat) (hk : k < s.length) :
    ∃ zs m, encK l s k = some (zs, m) ∧ ∃ o : Nat, m[o]? = some s[k] ∧ Lib.indexByte m s[k] = (o : Int) ∧ ys.getD k 0 = (o : Int) ∧ encK l s (k + 1) = some (zs ++ [(o : Int)], touch m o) := by
  rcases hz : encK l s k with _ | ⟨zs, m⟩
  · have := encK_none l s (s.length - k) k hz
    rw [show k + (s.length - k) = s.length by omega, h] at this
    cases this
  · refine ⟨zs, m, rfl, ?_⟩
    have hgd : s.getD k 0 = s[k] := by rw [List.getD_eq_getElem?_getD, List.getElem?_eq_getElem hk]; rfl
    rcases place_cases m s[k] with hp | ⟨o, hp, ho, hx⟩
    · have hn : encK l s (k + 1) = none := by rw [encK_succ, hz, hgd]; simp only [hp]; rfl
      have := encK_none l s (s.length - (k + 1)) (k + 1) hn
      rw [show k + 1 + (s.length - (k + 1)) = s.length by omega, h] at this
      cases this
    · have hs : encK l s (k + 1) = some (zs ++ [(o : Int)], touch m o) := by
        rw [encK_succ, hz, hgd]
        simp only [hp]
        rw [if_neg (by omega)]
        rfl
      refine ⟨o, hx, hp, ?_, hs⟩
      obtain ⟨t, ht⟩ := encK_pre l s (s.length - (k + 1)) (k + 1) _ _ ys n hs (by rw [show k + 1 + (s.length - (k + 1)) = s.length by omega]; exact h)
      have hl := (encK_len l s k zs m hz).1
      rw [ht, List.getD_eq_getElem?_getD, List.append_assoc, List.getElem?_append_right (by omega), hl, Nat.sub_self]
      rfl
/-- Decode of Encode: the orders are the same. -/
theorem dec_enc {l s : List UInt8} {ys : List Int} {n : List UInt8} (h : encK l s s.length = some (ys, n)) : ∀ k, k ≤ s.length → ∃ zs m, encK l s k = some (zs, m) ∧ decK l ys k = some (s.take k, m)
  | 0, _ => ⟨[], l, rfl, rfl⟩
  | k + 1, hk => by
    obtain ⟨zs, m, h1, h2⟩ := dec_enc h k (by omega)
    obtain ⟨zs', m', h3, o, hx, hp, hy, hs⟩ := encK_at h k (by omega)
    rw [h1] at h3
    cases h3
    refine ⟨_, _, hs, ?_⟩
    have ho := (List.getElem?_eq_some_iff.1 hx).1
    rcases dec_step h2 (o : Int) hy with ⟨hb, _⟩ | ⟨o', x, ho', hx', hd⟩
    · omega
    · have : o' = o := by omega
      subst this
      rw [hx] at hx'
      cases hx'
      rw [hd, List.take_succ_eq_append_getElem (by omega)]
/-- Encode of Decode: in an order that has each symbol once. -/
theorem place_nodup {m : List UInt8} (hn : m.Nodup) {o : Nat} {x : UInt8} (h : m[o]? = some x) : Lib.indexByte m x = (o : Int) :=
  place_is h (fun j hj he => by
    obtain ⟨h1, h2⟩ := List.getElem?_eq_some_iff.1 h
    obtain ⟨h3, h4⟩ := List.getElem?_eq_some_iff.1 he
    have := (List.nodup_iff_pairwise_ne.1 hn)
    rw [List.pairwise_iff_getElem] at this
    exact this j o h3 h1 hj (h4.trans h2.symm))
theorem touch_nodup {m : List UInt8} (hn : m.Nodup) (o : Nat) (ho : o < m.length) : (touch m o).Nodup := by
  have hp : (touch m o).Perm m := by
    rw [touch_cons m o ho]
    conv => rhs; rw [← List.take_append_drop o m, List.drop_eq_getElem_cons ho]
    exact List.perm_middle.symm
  exact hp.nodup_iff.2 hn
theorem syms_nodup {l : List UInt8} (h : IsSyms l) : l.Nodup := by
  rw [List.nodup_iff_pairwise_ne]
  have := h.1.sorted
  unfold Sorted at this
  exact this.imp (fun {a b} hab e => by subst e; omega)
theorem decK_pre (l : List UInt8) (zs : List Int) : ∀ (d k : Nat) s m u n, decK l zs k = some (s, m) → decK l zs (k + d) = some (u, n) → ∃ t, u = s ++ t
  | 0, k, s, m, u, n, h, h2 => by
    rw [Nat.add_zero, h] at h2
    cases h2
    exact ⟨[], by simp⟩
  | d + 1, k, s, m, u, n, h, h2 => by
    rw [← Nat.add_assoc, decK_succ] at h2
    split at h2
    · cases h2
    · rename_i us o ho
      obtain ⟨t, ht⟩ := decK_pre l zs d k s m us o h ho
      split at h2
      · cases h2
      · cases h2
        exact ⟨t ++ [o.getD (zs.getD (k + d) 0).toNat 0], by rw [ht, List.append_assoc]⟩
theorem enc_dec {l : List UInt8} {zs : List Int} {s n : List UInt8} (hn : l.Nodup) (h : decK l zs zs.length = some (s, n)) : ∀ k, k ≤ zs.length → ∃ u m, decK l zs k = some (u, m) ∧ encK l s k = some (zs.take k, m) ∧ m.Nodup
  | 0, _ => ⟨[], l, rfl, rfl, hn⟩
  | k + 1, hk => by
    obtain ⟨u, m, h1, h2, h3⟩ := enc_dec hn h k (by omega)
    rcases dec_step h1 (zs.getD k 0) rfl with ⟨_, hnone⟩ | ⟨o, x, hz, hx, hd⟩
    · have := decK_none l zs (zs.length - (k + 1)) (k + 1) hnone
      rw [show k + 1 + (zs.length - (k + 1)) = zs.length by omega, h] at this
      cases this
    · have ho := (List.getElem?_eq_some_iff.1 hx).1
      refine ⟨_, _, hd, ?_, touch_nodup h3 o ho⟩
      obtain ⟨t, ht⟩ := decK_pre l zs (zs.length - (k + 1)) (k + 1) _ _ s n hd (by rw [show k + 1 + (zs.length - (k + 1)) = zs.length by omega]; exact h)
      have hul := (decK_len l zs k u m h1).1
      have hgd : s.getD k 0 = x := by
        rw [ht, List.getD_eq_getElem?_getD, List.append_assoc, List.getElem?_append_right (by omega), hul, Nat.sub_self]
        rfl
      have hp := place_nodup h3 hx
      rw [encK_succ, h2, hgd]
      simp only [hp]
      rw [if_neg (by omega)]
      have hzk : zs[k] = (o : Int) := by
        rw [← hz, List.getD_eq_getElem?_getD, List.getElem?_eq_getElem (by omega)]
        rfl
      rw [List.take_succ_eq_append_getElem (by omega), hzk]
      rfl
theorem first_place {m : List UInt8} {x y : UInt8} {o : Nat} (h : m[0]? = some y) (hp : Lib.indexByte m x = (o : Int)) (hx : m[o]? = some x) : (o = 0) ↔ x = y := by
  constructor
  · rintro rfl
    rw [h] at hx
    exact (by simpa using hx.symm)
  · rintro rfl
    have := place_is (k := 0) h (fun j hj => by omega)
    omega
/-- A place is 0 just where the byte was told just ahead. -/
theorem place_zero {l s : List UInt8} {ys : List Int} {n : List UInt8} (h : encK l s s.length = some (ys, n)) (k : Nat) (hk : k + 1 < s.length) : ys.getD (k + 1) 0 = 0 ↔ s[k + 1] = s[k] := by
  obtain ⟨zs, m, h1, o, hx, hp, hy, hs⟩ := encK_at h k (by omega)
  obtain ⟨zs2, m2, h2, o2, hx2, hp2, hy2, hs2⟩ := encK_at h (k + 1) hk
  rw [hs] at h2
  cases h2
  have ho := (List.getElem?_eq_some_iff.1 hx)
  obtain ⟨ho1, ho2⟩ := ho
  have hhead : (touch m o)[0]? = some s[k] := by rw [touch_cons m o ho1, ho2]; rfl
  rw [hy2, ← first_place hhead hp2 hx2]
  omega
theorem place_in {l s : List UInt8} {ys : List Int} {n : List UInt8} (h : encK l s s.length = some (ys, n)) (k : Nat) (hk : k < s.length) : ∃ o : Nat, ys.getD k 0 = (o : Int) ∧ o < l.length := by
  obtain ⟨zs, m, h1, o, hx, hp, hy, hs⟩ := encK_at h k hk
  have ho := (List.getElem?_eq_some_iff.1 hx).1
  have := (encK_len _ _ _ _ _ h1).2
  exact ⟨o, hy, by omega⟩
set_option maxRecDepth 100000 in
set_option maxHeartbeats 1000000 in
theorem mtfForth.walk (l : Option Addr) (llen lcap : Nat) (lz : List Int) (t : ByteArray) (w : World) (hl : IsRow .i64 w l llen lcap lz) (ht : t.size ≤ maxLen) :
    Calls Try.prog 13 #[.slice l llen lcap, .string t] w fun e w' => e = .returned (.bool true) ∧ Below w.heap.size w w' := by
  obtain ⟨hI, hlen⟩ := ints_in hl
  have HI := Lib.hid hI
  clear hl hI
  generalize lz.take llen = zs at *
  by_cases h1 : llen ≤ 300
  · have h1i : (llen : Int) ≤ 300 := by omega
    by_cases h2 : t.size ≤ 256
    · have h2i : (t.size : Int) ≤ 256 := by omega
      by_cases hy : IsSyms t.data.toList
      · go_enter Try.func13, Try.ntmps13
        go_wp2_with fail
        refine (refIs_any t true w (by omega) ⟨fun _ => hy, fun _ => rfl⟩).mono ?_
        rintro e w0 ⟨rfl, hb⟩
        have HB0 := Lib.hid hb
        have HI0 := Lib.hid (HI.out.below hb)
        clear hb
        go_wp2_with fail
        refine (decode_any _ zs t w0 HI0.out (by omega) (by omega)).mono ?_
        rintro e w1 ⟨s, err, rfl, hB, hP⟩
        have HB := Lib.hid (HB0.out.trans (hB.mono HB0.out.size))
        have HI1 := Lib.hid (HI0.out.below hB)
        have HP := Lib.hid hP
        clear hB
        rcases hP with ⟨hn, _⟩ | ⟨_, _, _, rfl⟩ | ⟨_, ⟨m, hd⟩, rfl⟩
        · exact absurd hy hn
        · generalize (⟨s.toArray⟩ : ByteArray) = T at *
          go_wp2_with fail
          refine (refDecode_any _ zs t w1 HI1.out (by omega) (by omega)).mono ?_
          rintro e w2 ⟨s2, err2, rfl, hB2, hP2⟩
          obtain ⟨_, rfl⟩ := HP.out.same hP2
          have HB2 := Lib.hid (HB.out.trans (hB2.mono HB.out.size))
          clear hB2 hP2 HP
          generalize (⟨s2.toArray⟩ : ByteArray) = T2 at *
          go_wp2_with fail
          refine (bab_any _).mono ?_
          rintro e w4 ⟨rfl, hb⟩
          have HB4 := Lib.hid (HB2.out.trans (hb.mono HB2.out.size))
          clear hb
          go_wp2_with fail
          go_ret
          exact ⟨rfl, HB4.out⟩
        · have hsl := (decK_len _ _ _ _ _ hd).1
          obtain ⟨u, m2, hd2, he, _⟩ := enc_dec (syms_nodup hy) hd zs.length (Nat.le_refl _)
          rw [List.take_length, ← hsl] at he
          have HPE := Lib.hid (show EncP s t.data.toList zs 0 from Or.inr (Or.inr ⟨hy, ⟨m2, he⟩, rfl⟩))
          have HEN : Hid (∀ w, Calls Try.prog 46 #[.string ⟨s.toArray⟩, .string t] w fun e w' => ∃ (v : Value) (ys : List Int) (err : Nat), e = .returned (.tuple #[v, .int .i64 (err : Int)]) ∧ IsInts w' v ys ∧ Below w.heap.size w w' ∧ EncP s t.data.toList ys err) := Lib.hid (fun w => encode_any ⟨s.toArray⟩ t w (by rw [text_size]; omega) (by omega))
          clear hd hd2 he HP hsl
          generalize (⟨s.toArray⟩ : ByteArray) = T at *
          go_wp2_with fail
          refine (HEN.out w1).mono ?_
          rintro e w2 ⟨v, ys, err, rfl, hI2, hB2, hP2⟩
          obtain ⟨rfl, rfl⟩ := HPE.out.same hP2
          have HB2 := Lib.hid (HB.out.trans (hB2.mono HB.out.size))
          have HI2 := Lib.hid (HI1.out.below hB2)
          have HJ2 := Lib.hid hI2
          clear hI2 hB2 hP2 HPE HEN
          go_wp2_with fail
          refine (ints_any _ v zs zs true w2 HI2.out HJ2.out ⟨fun _ => rfl, fun _ => rfl⟩ (by omega) (by omega)).mono ?_
          rintro e w3 ⟨rfl, n, rfl⟩
          have HB3 := Lib.hid (HB2.out.trans ((below_drewN w2 n).mono HB2.out.size))
          go_wp2_with fail
          refine (bab_any _).mono ?_
          rintro e w4 ⟨rfl, hb⟩
          have HB4 := Lib.hid (HB3.out.trans (hb.mono HB3.out.size))
          clear hb
          go_wp2_with fail
          go_ret
          exact ⟨rfl, HB4.out⟩
      · go_enter Try.func13, Try.ntmps13
        go_wp2_with fail
        refine (refIs_any t false w (by omega) ⟨fun e => (by cases e), fun e => absurd e hy⟩).mono ?_
        rintro e w0 ⟨rfl, hb⟩
        have HB0 := Lib.hid hb
        clear hb
        go_wp2_with fail
        refine (bab_any _).mono ?_
        rintro e w4 ⟨rfl, hb⟩
        have HB4 := Lib.hid (HB0.out.trans (hb.mono HB0.out.size))
        clear hb
        go_wp2_with fail
        go_ret
        exact ⟨rfl, HB4.out⟩
    · have h2i : (256 : Int) < (t.size : Int) := by omega
      go_enter Try.func13, Try.ntmps13
      go_wp2_with fail
      refine (bab_any _).mono ?_
      rintro e w4 ⟨rfl, hb⟩
      have HB4 := Lib.hid hb
      clear hb
      go_wp2_with fail
      go_ret
      exact ⟨rfl, HB4.out⟩
  · have h1i : (300 : Int) < (llen : Int) := by omega
    go_enter Try.func13, Try.ntmps13
    go_wp2_with fail
    refine (bab_any _).mono ?_
    rintro e w4 ⟨rfl, hb⟩
    have HB4 := Lib.hid hb
    clear hb
    go_wp2_with fail
    go_ret
    exact ⟨rfl, HB4.out⟩
set_option maxRecDepth 100000 in
set_option maxHeartbeats 1000000 in
theorem mtfBack.near (s : ByteArray) (w : World) (hs : s.size ≤ 300) (hz : s.data.toList ≠ []) :
    Calls Try.prog 12 #[.string s] w fun e w' => e = .returned (.bool true) ∧ Below w.heap.size w w' := by
  have hsi : (s.size : Int) ≤ 300 := by omega
  have hsl : s.data.toList.length = s.size := rfl
  have hem := empty_is s false ⟨fun e => (by cases e), fun e => absurd e hz⟩
  have HRS := Lib.hid (fun w => refSymbols_any s w (by omega))
  have hy := syms_of hz
  obtain ⟨zs, m, hen, _⟩ := encK_own (syms (has s.data.toList) 256) s.data.toList (fun x hx => (mem_syms _ _ (Nat.le_refl _) x).2 ⟨x.toNat_lt, (has_mem _ x).2 hx⟩) s.data.toList.length (Nat.le_refl _)
  have hzl := (encK_len _ _ _ _ _ hen).1
  have HPE := Lib.hid (show EncP s.data.toList (syms (has s.data.toList) 256) zs 0 from Or.inr (Or.inr ⟨hy, ⟨m, hen⟩, rfl⟩))
  obtain ⟨zs', m', hen', hde⟩ := dec_enc hen s.data.toList.length (Nat.le_refl _)
  rw [List.take_length, ← hzl] at hde
  have HPD := Lib.hid (show DecP zs (syms (has s.data.toList) 256) s.data.toList 0 from Or.inr (Or.inr ⟨hy, ⟨m', hde⟩, rfl⟩))
  have HZ := Lib.hid (fun k hk => place_zero hen k hk)
  have HIN := Lib.hid (fun k hk => place_in hen k hk)
  have hTz : (⟨(syms (has s.data.toList) 256).toArray⟩ : ByteArray).size = (syms (has s.data.toList) 256).length := text_size _
  have hTl := syms_le (has s.data.toList) 256
  have HTL := Lib.hid (syms_text s.data.toList)
  have HEN := Lib.hid (fun w => encode_any s ⟨(syms (has s.data.toList) 256).toArray⟩ w hs (by omega))
  have HDE := Lib.hid (fun v w h => decode_any v zs ⟨(syms (has s.data.toList) 256).toArray⟩ w h (by omega) (by omega))
  rw [syms_text] at HEN HDE
  generalize syms (has s.data.toList) 256 = SY at *
  generalize (⟨SY.toArray⟩ : ByteArray) = T at *
  clear hz hy hen hen' hde HTL
  go_enter Try.func12, Try.ntmps12
  go_wp2_with fail
  refine (HRS.out w).mono ?_
  rintro e w0 ⟨rfl, hb⟩
  have HB0 := Lib.hid hb
  clear hb
  go_wp2_with fail
  refine (HEN.out w0).mono ?_
  rintro e w1 ⟨v, ys, err, rfl, hI, hB, hP⟩
  obtain ⟨rfl, rfl⟩ := HPE.out.same hP
  have HI := Lib.hid hI
  have HB := Lib.hid (HB0.out.trans (hB.mono HB0.out.size))
  clear hI hB hP HPE HEN
  go_wp2_with fail
  refine (HDE.out v w1 HI.out).mono ?_
  rintro e w2 ⟨u, err, rfl, hB2, hP2⟩
  obtain ⟨rfl, rfl⟩ := HPD.out.same hP2
  rw [show (⟨s.data.toList.toArray⟩ : ByteArray) = s from (text_eq s).symm]
  have HI2 := Lib.hid (HI.out.below hB2)
  have HB2 := Lib.hid (HB.out.trans (hB2.mono HB.out.size))
  obtain ⟨a, cap, rfl, _⟩ := HI.out
  have hzi : (zs.length : Int) = (s.size : Int) := by omega
  clear hB2 hP2 HPD HDE HI
  go_wp2_with fail
  go_loopw [52] (fun i wr => ∃ k n : Nat, k ≤ zs.length ∧ i = .int .i64 k ∧ wr = w2.drewN n) (fun i _ => zs.length - (intOf i).toNat)
  case atStart => exact ⟨0, 0, by omega, rfl, rfl⟩
  case round =>
    obtain ⟨k, n, hk, rfl, rfl⟩ := hrel
    by_cases hlk : k < zs.length
    · have hki : (k : Int) < (zs.length : Int) := by omega
      obtain ⟨b1, o1, k1, he1, c1⟩ := HI2.out.cell hlk
      simp only [Value.slice.injEq] at he1
      obtain ⟨rfl, _, rfl⟩ := he1
      obtain ⟨o, ho, hol⟩ := HIN.out k (by omega)
      rw [ho] at c1
      have hol1 : (o : Int) < (T.size : Int) := by omega
      have hol0 : (0 : Int) ≤ (o : Int) := by omega
      have hon : decide ((o : Int) < 0) = false := by simp only [decide_eq_false_iff_not]; omega
      have hks : k < s.size := by omega
      have hx1 := s[k].toNat_lt
      by_cases hk0 : k = 0
      · subst hk0
        rw [Nat.add_zero] at c1
        clear ho
        go_wp2_with fail
        go_quiet (fail)
        go_wp2_with fail
        go_roundw
        case rel => exact ⟨1, _, by omega, by go_num, rfl⟩
        case measure => simp [intOf]; omega
      · obtain ⟨j, hj⟩ : ∃ j, j + 1 = k := ⟨k - 1, by omega⟩
        have hjs : j < s.size := by omega
        have hcmp : ((o : Int) == 0) = ((s[k].toNat : Int) == (s[j].toNat : Int)) := by
          subst hj
          have hzz := HZ.out j (by omega)
          rw [ho] at hzz
          have hgk : s.data.toList[j + 1]'(by omega) = s[j + 1] := rfl
          have hgj : s.data.toList[j]'(by omega) = s[j] := rfl
          rw [hgk, hgj] at hzz
          rw [Bool.eq_iff_iff, beq_iff_eq, beq_iff_eq, hzz]
          constructor
          · intro h; rw [h]
          · intro h; exact UInt8.toNat_inj.1 (by omega)
        clear ho
        have hj1 : (k : Int) - 1 = (j : Int) := by omega
        have hjw : IntKind.i64.wrap (j : Int) = (j : Int) := IntWalk.i64_in _ (by omega)
        have hj0 : (0 : Int) < (k : Int) := by omega
        have hj00 : 0 < k := by omega
        have hj01 : decide (0 < k) = true := by simp only [decide_eq_true_eq]; omega
        have hj02 : decide ((0 : Int) < (k : Int)) = true := by simp only [decide_eq_true_eq]; omega
        have hji : (j : Int) < (s.size : Int) := by omega
        have hksi : (k : Int) < (s.size : Int) := by omega
        go_wp2_with fail
        go_quiet (fail)
        go_wp2_with fail
        go_roundw
        case rel => exact ⟨k + 1, _, by omega, by go_num, rfl⟩
        case measure => simp [intOf]; omega
    · obtain rfl : k = zs.length := by omega
      have HB3 := Lib.hid (HB2.out.trans ((below_drewN w2 n).mono HB2.out.size))
      go_wp2_with fail
      refine (bab_any _).mono ?_
      rintro e w4 ⟨rfl, hb⟩
      have HB4 := Lib.hid (HB3.out.trans (hb.mono HB3.out.size))
      clear hb
      go_wp2_with fail
      go_ret
      exact ⟨rfl, HB4.out⟩
theorem mtfBack.walk (s : ByteArray) (w : World) (hs : s.size ≤ maxLen) :
    Calls Try.prog 12 #[.string s] w fun e w' => e = .returned (.bool true) ∧ Below w.heap.size w w' := by
  by_cases h1 : s.size ≤ 300
  · by_cases hz : s.data.toList = []
    · have h1i : (s.size : Int) ≤ 300 := by omega
      have hem := empty_is s true ⟨fun _ => hz, fun _ => rfl⟩
      clear hz
      go_enter Try.func12, Try.ntmps12
      go_wp2_with fail
      refine (bab_any _).mono ?_
      rintro e w4 ⟨rfl, hb⟩
      have HB4 := Lib.hid hb
      clear hb
      go_wp2_with fail
      go_ret
      exact ⟨rfl, HB4.out⟩
    · exact mtfBack.near s w h1 hz
  · have h1i : (300 : Int) < (s.size : Int) := by omega
    go_enter Try.func12, Try.ntmps12
    go_wp2_with fail
    refine (bab_any _).mono ?_
    rintro e w4 ⟨rfl, hb⟩
    have HB4 := Lib.hid hb
    clear hb
    go_wp2_with fail
    go_ret
    exact ⟨rfl, HB4.out⟩
end Go.Proofs.Ythpgddodfnjmbaa

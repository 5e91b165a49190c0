/-
  MERGED by seg.py out of: UpF BitsRefB BitsPack CrcLawB StrKa RleRef RleRefB SplRoom SplRef.
-/
import Derived.Test.YtnffkbpgcidpkaaGreatDoorUpSegE
import Derived.Deep.RegionHeld3
import Derived.BigQuiet
import Derived.Deep.Cut
namespace Go.Proofs.YtnffkbpgcidpkaaGreatDoor
open Go.RowKit BitM
set_option linter.unusedVariables false
set_option linter.unusedSimpArgs false
/-- What a step leaves. -/
def XsP (B : Nat) (w : World) (x fb ub pk sm : Nat) (l : List UInt8) (dr p : Nat) (win lim U due lev : Int) (uen en sh dn : Bool) (st : Int) (w' : World) : Prop :=
  ∃ rv sp, sp ≤ dr ∧ Xs B w' x fb ub pk sm rv l dr sp p win lim U due lev uen en sh dn st ∧ Below B w w'
section
variable {B x fb ub pk sm : Nat} {rv : Value} {l : List UInt8} {dr sp p : Nat} {win lim U due lev : Int} {uen en sh dn : Bool} {st : Int}
theorem Xs.below {w w' : World} (h : Xs B w x fb ub pk sm rv l dr sp p win lim U due lev uen en sh dn st) (hb : Below w.heap.size w w') : Xs B w' x fb ub pk sm rv l dr sp p win lim U due lev uen en sh dn st :=
  ⟨h.obj.touch (Touch.ofBelow (S := fun _ => False) hb) (fun e => e), h.rdr.other (Touch.ofBelow (S := fun _ => False) hb) (fun _ _ e => e), h.us.touch (Touch.ofBelow (S := fun _ => False) hb) (fun e => e), h.ap, h.own, h.base⟩
theorem Xs.of_obj {w w' : World} (h : Xs B w x fb ub pk sm rv l dr sp p win lim U due lev uen en sh dn st) (ht : Touch (· = x) w w') {en2 sh2 dn2 : Bool} {st2 : Int} (ho : XpObj w' x win lim fb ub pk sm en2 sh2 dn2 st2) : Xs B w' x fb ub pk sm rv l dr sp p win lim U due lev uen en2 sh2 dn2 st2 :=
  ⟨ho, h.rdr.other ht (fun k hk => (h.own k hk).1), h.us.touch ht (fun e => h.ap e.symm), h.ap, h.own, h.base⟩
theorem Xs.below_obj {w w' : World} (h : Xs B w x fb ub pk sm rv l dr sp p win lim U due lev uen en sh dn st) (hB : B ≤ w.heap.size) (ht : Touch (· = x) w w') : Below B w w' := ht.below hB (fun k hk => by have := h.base; have e : k = x := hk; omega)
/-- behind the reader's step and what forgets the bytes -/
theorem Xs.step {w w1 w2 : World} (h : Xs B w x fb ub pk sm rv l dr sp p win lim U due lev uen en sh dn st) (hB : B ≤ w.heap.size) {p2 : Nat} {d2 l2 : Int} {u2 : Bool}
    (h1 : UsP w ub fb rv l dr sp p2 U d2 l2 u2 w1) {n sp2 : Nat} {rv2 : Value} (h2 : IsReader w2 fb rv2 (l.drop n) (dr + n) sp2 p2) (ht : Touch (foot fb rv) w1 w2) (hown : ∀ k, rv2.ownBlock = some k → rv.ownBlock = some k ∨ w1.heap.size ≤ k) :
    Xs B w2 x fb ub pk sm rv2 (l.drop n) (dr + n) sp2 p2 win lim U d2 l2 u2 en sh dn st ∧ Below B w w2 := by
  obtain ⟨k1, k2, k3⟩ := h1
  have hx : ¬ (x = ub ∨ x = fb) := fun e => e.elim h.ap (fun e => (h.own fb (Or.inl rfl)).1 e.symm)
  have o1 := h.obj.touch k3 hx
  have o2 := o1.touch ht (fun e => (h.own x e).1 rfl)
  have u2' := k1.touch ht (fun e => (h.own ub e).2.1 rfl)
  have hs := k3.size
  refine ⟨⟨o2, h2, u2', h.ap, fun k hk => ?_, h.base⟩, (k3.below hB (fun k hk => hk.elim (fun e => e ▸ h.base.2) (fun e => e ▸ (h.own fb (Or.inl rfl)).2.2))).trans (ht.below (Nat.le_trans hB hs) (fun k hk => (h.own k hk).2.2))⟩
  rcases hk with rfl | hk
  · exact h.own _ (Or.inl rfl)
  · rcases hown k hk with h1 | h1
    · exact h.own k (Or.inr h1)
    · have e1 := h.obj.lt
      have e2 := h.us.lt
      have e3 := h.base
      omega
set_option maxRecDepth 100000 in
set_option maxHeartbeats 4000000 in
theorem xpread_ok (what : Int) {p2 n : Nat} {d2 l2 : Int} {u2 : Bool} (w : World) (h : Xs B w x fb ub pk sm rv l dr sp p win lim U due lev uen en sh dn st) (hB : B ≤ w.heap.size) (hsp : sp ≤ dr) (hs : dr + l.length ≤ 1000000) (hn : n = p2 / 8 - dr) (hwhat : (what == 1) = false)
    (hq : ∀ W, Below w.heap.size w W → Xs B W x fb ub pk sm rv l dr sp p win lim U due lev uen en sh dn st → Calls Tryz.prog 56 #[.pointer (some ⟨ub, 0, none⟩), .pointer (some ⟨fb, 0, none⟩)] W fun e w' => e = .returned (.tuple #[.int .i64 what, .int .i64 0]) ∧ UsP W ub fb rv l dr sp p2 U d2 l2 u2 w') :
    Calls Tryz.prog 43 #[.pointer (some ⟨x, 0, none⟩)] w fun e w' => e = .returned (.int .i64 1) ∧ XsP B w x fb ub pk sm (l.drop n) (dr + n) p2 win lim U d2 l2 u2 en sh dn st w' := by
  have H := Lib.hid h
  have HQ := Lib.hid (hq w.drew ⟨rfl, rfl, rfl, Nat.le_refl _, fun _ _ => rfl⟩ (h.below ⟨rfl, rfl, rfl, Nat.le_refl _, fun _ _ => rfl⟩))
  obtain ⟨c0, c1, c2, c3, c4, c5, c6, c9, c10, c11, c12⟩ := h.obj.cells
  have HDN := Lib.hid (⟨rfl, rfl, rfl, Nat.le_refl _, fun _ _ => rfl⟩ : Below w.heap.size w w.drew)
  have H0 := Lib.hid (h.below HDN.out)
  have HN := Lib.hid hn
  clear h hq hn
  go_enter Tryz.func43, Tryz.ntmps43
  go_wp2_with fail
  go_region_held3 (fun W => W.cell? ⟨x, 4, none⟩ = some (.pointer (some ⟨ub, 0, none⟩)) ∧ W.cell? ⟨x, 2, none⟩ = some (.pointer (some ⟨fb, 0, none⟩))) (go_keep)
    (first
      | (go_at_call 56; refine HQ.out.mono ?_; rintro e w1 ⟨rfl, h1⟩; have hx1 : XpObj w1 x win lim fb ub pk sm en sh dn st := H0.out.obj.touch h1.2.2 (fun e => e.elim H.out.ap (fun e => (H.out.own fb (Or.inl rfl)).1 e.symm)); have HD := Lib.hid (drop_any fb rv l dr sp p2 n w1 h1.2.1 (by omega) hsp HN.out); have H1 := Lib.hid h1; obtain ⟨d0, d1, d2', d3, d4, d5, d6, d9, d10, d11, d12⟩ := hx1.cells; clear h1 hx1))
  clear c0 c1 c2 c3 c4 c5 c6 c9 c10 c11 c12
  go_wp2_with fail
  refine HD.out.mono ?_
  rintro e w2 ⟨rfl, v2, sp2, hr2, hsp2, ht2, how2⟩
  obtain ⟨hz, hbz⟩ := H0.out.step hB H1.out hr2 ht2 how2
  have HZ := Lib.hid (show XsP B w x fb ub pk sm (l.drop n) (dr + n) p2 win lim U _ _ _ en sh dn st w2 from ⟨v2, sp2, hsp2, hz, (HDN.out.mono hB).trans hbz⟩)
  obtain ⟨e0, e1, e2, e3, e4, e5, e6, e9, e10, e11, e12⟩ := hz.obj.cells
  clear hr2 hsp2 ht2 how2 hz hbz d0 d1 d2' d3 d4 d5 d6 d9 d10 d11 d12
  go_wp2_with fail
  go_ret
  exact ⟨rfl, HZ.out⟩
set_option maxRecDepth 100000 in
set_option maxHeartbeats 4000000 in
theorem xpread_short (w : World) (h : Xs B w x fb ub pk sm rv l dr sp p win lim U due lev uen false sh dn st) (hB : B ≤ w.heap.size) (hsp : sp ≤ dr) (hs : dr + l.length ≤ 1000000) (hn : p / 8 = dr)
    (hq : ∀ W, Below w.heap.size w W → Xs B W x fb ub pk sm rv l dr sp p win lim U due lev uen false sh dn st → Calls Tryz.prog 56 #[.pointer (some ⟨ub, 0, none⟩), .pointer (some ⟨fb, 0, none⟩)] W fun e w' => e = .returned (.tuple #[.int .i64 0, .int .i64 3]) ∧ ∃ n, w' = W.drewN n) :
    Calls Tryz.prog 43 #[.pointer (some ⟨x, 0, none⟩)] w fun e w' => e = .returned (.int .i64 0) ∧ XsP B w x fb ub pk sm l dr p win lim U due lev uen false true dn st w' := by
  have H := Lib.hid h
  have HQ := Lib.hid (hq w.drew ⟨rfl, rfl, rfl, Nat.le_refl _, fun _ _ => rfl⟩ (h.below ⟨rfl, rfl, rfl, Nat.le_refl _, fun _ _ => rfl⟩))
  obtain ⟨c0, c1, c2, c3, c4, c5, c6, c9, c10, c11, c12⟩ := h.obj.cells
  have HDN := Lib.hid (⟨rfl, rfl, rfl, Nat.le_refl _, fun _ _ => rfl⟩ : Below w.heap.size w w.drew)
  have HN := Lib.hid (show 0 = p / 8 - dr by omega)
  clear h hq hn
  go_enter Tryz.func43, Tryz.ntmps43
  go_wp2_with fail
  go_region_held3 (fun W => W.cell? ⟨x, 4, none⟩ = some (.pointer (some ⟨ub, 0, none⟩)) ∧ W.cell? ⟨x, 2, none⟩ = some (.pointer (some ⟨fb, 0, none⟩))) (go_keep)
    (first
      | (go_at_call 56; refine HQ.out.mono ?_; rintro e w1 ⟨rfl, n1, hw1⟩; have hb1 : Below w.heap.size w w1 := (by rw [hw1]; exact ⟨rfl, rfl, rfl, Nat.le_refl _, fun _ _ => rfl⟩); have HB1 := Lib.hid hb1; have h1 := H.out.below hb1; have HD := Lib.hid (drop_any fb rv l dr sp p 0 w1 h1.rdr (by omega) hsp HN.out); have H1 := Lib.hid h1; obtain ⟨d0, d1, d2', d3, d4, d5, d6, d9, d10, d11, d12⟩ := h1.obj.cells; clear h1 hw1 hb1))
  clear c0 c1 c2 c3 c4 c5 c6 c9 c10 c11 c12
  go_wp2_with fail
  refine HD.out.mono ?_
  rintro e w2 ⟨rfl, v2, sp2, hr2, hsp2, ht2, how2⟩
  rw [List.drop_zero, Nat.add_zero] at hr2
  have hx2 := H1.out.obj.touch ht2 (fun e => (H1.out.own x e).1 rfl)
  have hu2 := H1.out.us.touch ht2 (fun e => (H1.out.own ub e).2.1 rfl)
  have hs1 := HB1.out.size
  have hz2 : Xs B w2 x fb ub pk sm v2 l dr sp2 p win lim U due lev uen false sh dn st := ⟨hx2, hr2, hu2, H1.out.ap, fun k hk => by
    rcases hk with rfl | hk
    · exact H1.out.own _ (Or.inl rfl)
    · rcases how2 k hk with h1 | h1
      · exact H1.out.own k (Or.inr h1)
      · have e1 := H1.out.obj.lt
        have e2 := H1.out.us.lt
        have e3 := H1.out.base
        omega, H1.out.base⟩
  have hb2 : Below B w w2 := (HB1.out.mono hB).trans (ht2.below (Nat.le_trans hB hs1) (fun k hk => (H1.out.own k hk).2.2))
  obtain ⟨e0, e1, e2, e3, e4, e5, e6, e9, e10, e11, e12⟩ := hx2.cells
  have f5 := hx2.frozen 5
  obtain ⟨W3, hW3⟩ : ∃ W3, w2.setCell ⟨x, 5, none⟩ (.bool true) = W3 := ⟨_, rfl⟩
  have ht3 : Touch (· = x) w2 W3 := by rw [← hW3]; exact touch_cell (Touch.refl _ _)
  have hx3 : XpObj W3 x win lim fb ub pk sm false true dn st := by rw [← hW3]; exact hx2.setSh true
  have HZ := Lib.hid (show XsP B w x fb ub pk sm l dr p win lim U due lev uen false true dn st W3 from ⟨v2, sp2, by simpa using hsp2, hz2.of_obj ht3 hx3, hb2.trans (hz2.below_obj (Nat.le_trans hB hb2.size) ht3)⟩)
  clear hr2 hsp2 ht2 how2 hx2 hu2 hz2 hb2 hx3 ht3 d0 d1 d2' d3 d4 d5 d6 d9 d10 d11 d12
  go_wp2_with fail
  go_ret
  exact ⟨rfl, HZ.out⟩
set_option maxRecDepth 100000 in
set_option maxHeartbeats 4000000 in
theorem xpread_end (w : World) (h : Xs B w x fb ub pk sm rv l dr sp p win lim U 0 lev true true sh dn st) (hB : B ≤ w.heap.size) (hsp : sp ≤ dr) (hs : dr + l.length ≤ 1000000) (hn : p / 8 = dr)
    (hq : ∀ W, Below w.heap.size w W → Xs B W x fb ub pk sm rv l dr sp p win lim U 0 lev true true sh dn st → Calls Tryz.prog 56 #[.pointer (some ⟨ub, 0, none⟩), .pointer (some ⟨fb, 0, none⟩)] W fun e w' => e = .returned (.tuple #[.int .i64 0, .int .i64 3]) ∧ ∃ n, w' = W.drewN n) :
    Calls Tryz.prog 43 #[.pointer (some ⟨x, 0, none⟩)] w fun e w' => e = .returned (.int .i64 1) ∧ XsP B w x fb ub pk sm l dr p win lim U 0 lev true true sh true st w' := by
  have H := Lib.hid h
  have HQ := Lib.hid (hq w.drew ⟨rfl, rfl, rfl, Nat.le_refl _, fun _ _ => rfl⟩ (h.below ⟨rfl, rfl, rfl, Nat.le_refl _, fun _ _ => rfl⟩))
  obtain ⟨c0, c1, c2, c3, c4, c5, c6, c9, c10, c11, c12⟩ := h.obj.cells
  have HDN := Lib.hid (⟨rfl, rfl, rfl, Nat.le_refl _, fun _ _ => rfl⟩ : Below w.heap.size w w.drew)
  have HN := Lib.hid (show 0 = p / 8 - dr by omega)
  clear h hq hn
  go_enter Tryz.func43, Tryz.ntmps43
  go_wp2_with fail
  go_region_held3 (fun W => W.cell? ⟨x, 4, none⟩ = some (.pointer (some ⟨ub, 0, none⟩)) ∧ W.cell? ⟨x, 2, none⟩ = some (.pointer (some ⟨fb, 0, none⟩))) (go_keep)
    (first
      | (go_at_call 56; refine HQ.out.mono ?_; rintro e w1 ⟨rfl, n1, hw1⟩; have hb1 : Below w.heap.size w w1 := (by rw [hw1]; exact ⟨rfl, rfl, rfl, Nat.le_refl _, fun _ _ => rfl⟩); have HB1 := Lib.hid hb1; have h1 := H.out.below hb1; have HD := Lib.hid (drop_any fb rv l dr sp p 0 w1 h1.rdr (by omega) hsp HN.out); have H1 := Lib.hid h1; obtain ⟨d0, d1, d2', d3, d4, d5, d6, d9, d10, d11, d12⟩ := h1.obj.cells; clear h1 hw1 hb1))
  clear c0 c1 c2 c3 c4 c5 c6 c9 c10 c11 c12
  go_wp2_with fail
  refine HD.out.mono ?_
  rintro e w2 ⟨rfl, v2, sp2, hr2, hsp2, ht2, how2⟩
  rw [List.drop_zero, Nat.add_zero] at hr2
  have hx2 := H1.out.obj.touch ht2 (fun e => (H1.out.own x e).1 rfl)
  have hu2 := H1.out.us.touch ht2 (fun e => (H1.out.own ub e).2.1 rfl)
  have hs1 := HB1.out.size
  have hz2 : Xs B w2 x fb ub pk sm v2 l dr sp2 p win lim U 0 lev true true sh dn st := ⟨hx2, hr2, hu2, H1.out.ap, fun k hk => by
    rcases hk with rfl | hk
    · exact H1.out.own _ (Or.inl rfl)
    · rcases how2 k hk with h1 | h1
      · exact H1.out.own k (Or.inr h1)
      · have e1 := H1.out.obj.lt
        have e2 := H1.out.us.lt
        have e3 := H1.out.base
        omega, H1.out.base⟩
  have hb2 : Below B w w2 := (HB1.out.mono hB).trans (ht2.below (Nat.le_trans hB hs1) (fun k hk => (H1.out.own k hk).2.2))
  have HM := Lib.hid (usmay_any ub U lev w2 hu2)
  obtain ⟨e0, e1, e2, e3, e4, e5, e6, e9, e10, e11, e12⟩ := hx2.cells
  have f10 := hx2.frozen 10
  obtain ⟨W3, hW3⟩ : ∃ W3, w2.setCell ⟨x, 10, none⟩ (.bool true) = W3 := ⟨_, rfl⟩
  have ht3 : Touch (· = x) w2 W3 := by rw [← hW3]; exact touch_cell (Touch.refl _ _)
  have hx3 : XpObj W3 x win lim fb ub pk sm true sh true st := by rw [← hW3]; exact hx2.setDn true
  have HZ := Lib.hid (show XsP B w x fb ub pk sm l dr p win lim U 0 lev true true sh true st W3 from ⟨v2, sp2, by simpa using hsp2, hz2.of_obj ht3 hx3, hb2.trans (hz2.below_obj (Nat.le_trans hB hb2.size) ht3)⟩)
  clear hr2 hsp2 ht2 how2 hx2 hu2 hz2 hb2 hx3 ht3 d0 d1 d2' d3 d4 d5 d6 d9 d10 d11 d12
  go_wp2_with fail
  refine HM.out.mono ?_
  rintro e w4 ⟨rfl, hw4⟩
  obtain rfl := hw4.symm
  go_wp2_with fail
  go_ret
  exact ⟨rfl, HZ.out⟩
set_option maxHeartbeats 2000000 in
theorem xpsome_any {R : World → Prop} (c n : Int) (w : World) (h : XpObj w x win lim fb ub pk sm en sh dn st)
    (hq : Calls Tryz.prog 43 #[.pointer (some ⟨x, 0, none⟩)] w fun e w' => e = .returned (.int .i64 c) ∧ R w') :
    Calls Tryz.prog 32 #[.pointer (some ⟨x, 0, none⟩), .int .i64 n] w fun e w' => e = .returned (.int .i64 c) ∧ R w' := by
  obtain ⟨c0, c1, c2, c3, c4, c5, c6, c9, c10, c11, c12⟩ := h.cells
  have HQ := Lib.hid hq
  clear hq h
  go_enter Tryz.func32, Tryz.ntmps32
  go_wp2_with fail
  refine HQ.out.mono ?_
  rintro e w1 ⟨rfl, hR⟩
  have HR := Lib.hid hR
  clear hR
  go_wp2_with fail
  go_ret
  exact ⟨rfl, HR.out⟩
end
end Go.Proofs.YtnffkbpgcidpkaaGreatDoor
namespace Go.Proofs.YtnffkbpgcidpkaaGreatDoor
open Go.RowKit BitM
set_option linter.unusedVariables false
theorem field_zero_succ (k : Nat) : field 0 k ++ [false] = field 0 (k + 1) := by
  show _ = field (0 / 2) k ++ [0 % 2 == 1]
  rfl
set_option maxHeartbeats 400000 in
theorem padded_any (q : List Bool) (w : World) (hq : q.length ≤ 1099511627776) : Calls Tryz.prog 52 #[.string (txt q)] w fun e w' => e = .returned (.string (txt (q ++ padding q))) ∧ w = w' := by
  have H0 := Lib.hid (show txt (q ++ field 0 0) = txt q by simp [field])
  go_enter Tryz.func52, Tryz.ntmps52
  go_wp2_with fail
  go_loop [0] (fun s => ∃ k : Nat, k ≤ (8 - q.length % 8) % 8 ∧ s = .string (txt (q ++ field 0 k))) (fun s => match s with | .string s => q.length + 8 - s.size | _ => 0)
  case atStart => exact ⟨0, by omega, by rw [H0.out]⟩
  case round =>
    obtain ⟨k, hk, rfl⟩ := hrel
    have hsz : (txt (q ++ field 0 k)).size = q.length + k := by rw [txt_size, List.length_append, field_length]
    have HS1 : Hid (txt (q ++ field 0 k) ++ ⟨#[48]⟩ = txt (q ++ field 0 (k + 1))) := Lib.hid (by
      rw [← field_zero_succ, ← List.append_assoc, show (⟨#[48]⟩ : ByteArray) = txt [false] from rfl, txt_append])
    have hsz1 : (txt (q ++ field 0 (k + 1))).size = q.length + (k + 1) := by rw [txt_size, List.length_append, field_length]
    have HSE : Hid (k = (8 - q.length % 8) % 8 → txt (q ++ field 0 k) = txt (q ++ padding q)) := Lib.hid (fun h => by rw [h]; rfl)
    generalize txt (q ++ field 0 k) = T at *
    obtain ⟨T1, hT1⟩ : ∃ T1, txt (q ++ field 0 (k + 1)) = T1 := ⟨_, rfl⟩
    rw [hT1] at HS1 hsz1
    have HT1 := Lib.hid hT1
    clear hT1
    by_cases hlt : k < (8 - q.length % 8) % 8
    · have hc : ((T.size : Int) % 8 != 0) = true := by simp only [bne_iff_ne]; omega
      have h1 : (⟨#[48]⟩ : ByteArray).size = 1 := rfl
      go_wp2_with fail
      rw [HS1.out]
      exact ⟨⟨k + 1, by omega, by rw [HT1.out]⟩, by show q.length + 8 - T1.size < q.length + 8 - T.size; omega⟩
    · have hc : ((T.size : Int) % 8 != 0) = false := by simp only [bne_eq_false_iff_eq]; omega
      go_wp2_with fail
      go_ret
      rw [HSE.out (by omega)]
      exact ⟨rfl, rfl⟩
theorem txt_take (q : List Bool) (n : Nat) (h : n ≤ q.length) : (txt q).extract 0 n = txt (q.take n) := by
  apply ByteArray.ext
  simp [txt]
theorem txt_drop (q : List Bool) (n : Nat) (h : n ≤ q.length) : (txt q).extract n (txt q).size = txt (q.drop n) := by
  apply ByteArray.ext
  have e : (txt q).size = q.length := txt_size q
  rw [e]
  simp only [txt, ByteArray.data_extract, List.extract_toArray, List.extract_eq_take_drop, List.map_drop]
  rw [List.take_of_length_le (by simp)]
theorem byts_get (q : List Bool) (k : Nat) (h : k < q.length / 8) : ∃ x : UInt8, (byts q)[k]? = some x ∧ num ((q.drop (8 * k)).take 8) = x.toNat := by
  refine ⟨UInt8.ofNat (num ((q.drop (8 * k)).take 8)), ?_, ?_⟩
  · unfold byts
    rw [List.getElem?_map, List.getElem?_range h]; rfl
  · have hlt := num_lt ((q.drop (8 * k)).take 8)
    have hl : ((q.drop (8 * k)).take 8).length = 8 := by simp; omega
    rw [hl] at hlt
    rw [UInt8.toNat_ofNat']; exact (Nat.mod_eq_of_lt hlt).symm
set_option maxHeartbeats 400000 in
theorem bytes_any (q : List Bool) (w : World) (hq : q.length ≤ 1099511627776) : Calls Tryz.prog 51 #[.string (txt q)] w fun e w' => e = .returned (.string ⟨(byts q).toArray⟩) ∧ Below w.heap.size w w' := by
  go_enter Tryz.func51, Tryz.ntmps51
  go_wp2_with fail
  go_loopw [0, 3] (fun s o wr => ∃ k : Nat, k ≤ q.length / 8 ∧ s = .string (txt (q.drop (8 * k))) ∧ o = .string ⟨((byts q).take k).toArray⟩ ∧ Below w.heap.size w wr) (fun s _ _ => match s with | .string s => s.size | _ => 0)
  case atStart => exact ⟨0, by omega, rfl, rfl, Below.refl _ _⟩
  case round =>
    obtain ⟨k, hk, rfl, rfl, hB⟩ := hrel
    have HB := Lib.hid hB
    clear hB
    have hsz : (txt (q.drop (8 * k))).size = q.length - 8 * k := by rw [txt_size, List.length_drop]
    by_cases hlt : k < q.length / 8
    · have HT8 : Hid ((txt (q.drop (8 * k))).extract 0 8 = txt ((q.drop (8 * k)).take 8)) := Lib.hid (txt_take _ _ (by simp; omega))
      have HD8 : Hid ((txt (q.drop (8 * k))).extract 8 (txt (q.drop (8 * k))).size = txt (q.drop (8 * (k + 1)))) := Lib.hid (by
        rw [txt_drop _ _ (by simp; omega), List.drop_drop]; rfl)
      obtain ⟨x, hx, hn⟩ := byts_get q k hlt
      have HNUM : ∀ w, Calls Tryz.prog 77 #[.string ((txt (q.drop (8 * k))).extract 0 8)] w fun e w' => e = .returned (.int .u32 (x.toNat : Int)) ∧ w = w' := fun w => by
        rw [HT8.out, ← hn]; exact number_any _ w (by simp; omega)
      have hnum := Lib.hid HNUM
      have hos : (⟨((byts q).take k).toArray⟩ : ByteArray).size ≤ 1099511627776 := by show ((byts q).take k).toArray.size ≤ _; simp [byts_length]; omega
      have HX : Hid ((⟨((byts q).take k).toArray⟩ : ByteArray) ++ ⟨#[x]⟩ = ⟨((byts q).take (k + 1)).toArray⟩) := Lib.hid (by
        apply ByteArray.ext
        rw [List.take_add_one, hx]; simp)
      have hx1 : (⟨#[x]⟩ : ByteArray).size = 1 := rfl
      have hxt := x.toNat_lt
      clear HNUM hn hx
      generalize txt (q.drop (8 * k)) = T at *
      generalize (⟨((byts q).take k).toArray⟩ : ByteArray) = O at *
      go_wp2_with fail
      refine (hnum.out wr).mono ?_
      rintro e w' ⟨rfl, rfl⟩
      have hcv : (convert 50 9 (.slice (some ⟨wr.heap.size, 0, none⟩) 1 1)).run Tryz.prog (wr.alloc (.cells #[.int .u8 (x.toNat : Int)] 5)) = .ok (.string ⟨#[x]⟩) (wr.alloc (.cells #[.int .u8 (x.toNat : Int)] 5)) := run_convert_bytes_back (P := Tryz.prog) (wr.alloc (.cells #[.int .u8 (x.toNat : Int)] 5)) 50 9 5 ⟨wr.heap.size, 0, none⟩ 1 [x] Tryz.underlying50 Tryz.underlying5 Tryz.underlying9 (fun j hj => by
        obtain rfl : j = 0 := by simpa using hj
        have hb : (wr.alloc (.cells #[.int .u8 (x.toNat : Int)] 5)).heap[wr.heap.size]? = some (.cells #[.int .u8 (x.toNat : Int)] 5) := by show (wr.heap.push _)[_]? = _; simp
        rw [Addr.add_lit, cell_of_row _ _ _ _ _ _ hb]; rfl)
      have h8 : 8 ≤ T.size := by omega
      have HTS := Lib.hid hsz
      have HE : Hid ((T.extract 8 T.size).size = T.size - 8) := Lib.hid (by rw [ByteArray.size_extract]; omega)
      clear hsz
      go_wp2_with fail
      refine ⟨⟨k + 1, by omega, ?_, by rw [HX.out], HB.out.alloc HB.out.size _⟩, ?_⟩
      · first
          | rw [HD8.out]
          | (have := HD8.out; have := HTS.out; simp_all)
      · show (T.extract 8 _).size < T.size
        rw [ByteArray.size_extract]
        omega
    · obtain rfl : k = q.length / 8 := by omega
      have HO : Hid ((byts q).take (q.length / 8) = byts q) := Lib.hid (List.take_of_length_le (by rw [byts_length]; exact Nat.le_refl _))
      rw [HO.out]
      go_wp2_with fail
      go_ret
      exact ⟨rfl, HB.out⟩
end Go.Proofs.YtnffkbpgcidpkaaGreatDoor
namespace Go.Proofs.YtnffkbpgcidpkaaGreatDoor
open Go.RowKit BitM
set_option linter.unusedVariables false
set_option maxHeartbeats 400000 in
theorem pack_any (q : List Bool) (w : World) (hq : q.length ≤ 1099511620000) : Calls Tryz.prog 40 #[.string (txt q)] w fun e w' => e = .returned (.string ⟨(byts (q ++ padding q)).toArray⟩) ∧ Below w.heap.size w w' := by
  have HP : Hid (Calls Tryz.prog 52 #[.string (txt q)] w fun e w' => e = .returned (.string (txt (q ++ padding q))) ∧ w = w') := Lib.hid (padded_any q w (by omega))
  have HBY := Lib.hid (bytes_any (q ++ padding q) w (by
    have h1 : (padding q).length < 8 := by unfold padding; rw [field_length]; omega
    rw [List.length_append]; omega))
  go_enter Tryz.func40, Tryz.ntmps40
  go_wp2_with fail
  refine HP.out.mono ?_
  rintro e w1 ⟨rfl, rfl⟩
  go_wp2_with fail
  refine HBY.out.mono ?_
  rintro e w2 ⟨rfl, hb⟩
  have HB := Lib.hid hb
  clear hb
  go_wp2_with fail
  go_ret
  exact ⟨rfl, HB.out⟩
theorem pad_bytes (Q : List Bool) : ∃ n, (Q ++ padding Q).length = 8 * n ∧ 8 * n ≤ Q.length + 7 := by
  have h : (Q ++ padding Q).length = Q.length + (8 - Q.length % 8) % 8 := by
    rw [List.length_append]
    unfold padding
    rw [field_length]
  exact ⟨(Q.length + (8 - Q.length % 8) % 8) / 8, by omega, by omega⟩
theorem app_list (a b : ByteArray) : (a ++ b).data.toList = a.data.toList ++ b.data.toList := by
  rw [ByteArray.data_append, Array.toList_append]
/-- The bits of the taken bytes and what is behind them. -/
theorem taken_bits (Q : List Bool) (s : ByteArray) : bitsOf ((⟨(byts (Q ++ padding Q)).toArray⟩ : ByteArray) ++ s).data.toList = Q ++ (padding Q ++ bitsOf s.data.toList) := by
  obtain ⟨n, hn, _⟩ := pad_bytes Q
  rw [app_list, bitsOf_append]
  show bitsOf (byts (Q ++ padding Q)) ++ _ = _
  rw [bitsOf_byts n _ hn, List.append_assoc]
end Go.Proofs.YtnffkbpgcidpkaaGreatDoor
namespace Go.Proofs.YtnffkbpgcidpkaaGreatDoor
open Go.ChangeShapes Go.WideShapes Go.ChangeAt Go.RowKit CrcM
set_option linter.unusedVariables false
def IsU32 (w : World) (a : Option Addr) (len : Nat) (xs : List (BitVec 32)) : Prop :=
  xs.length = len ∧ len ≤ maxLen ∧ ∀ i x, xs[i]? = some x → ∃ b off, a = some ⟨b, off, none⟩ ∧ b < w.heap.size ∧ w.cell? ⟨b, off + i, none⟩ = some (.int .u32 (x.toNat : Int))
theorem IsU32.below {w w' : World} {a : Option Addr} {len : Nat} {xs : List (BitVec 32)} (h : IsU32 w a len xs) (hb : Below w.heap.size w w') : IsU32 w' a len xs :=
  ⟨h.1, h.2.1, fun i x hx => by
    obtain ⟨b, off, ha, hlt, hc⟩ := h.2.2 i x hx
    exact ⟨b, off, ha, Nat.lt_of_lt_of_le hlt hb.size, (hb.cell (p := ⟨b, off + i, none⟩) hlt).trans hc⟩⟩
def strm (xs : List (BitVec 32)) : BitVec 32 := xs.foldl cmb 0#32
theorem strm_take (xs : List (BitVec 32)) (k : Nat) (x : BitVec 32) (h : xs[k]? = some x) : strm (xs.take (k + 1)) = cmb (strm (xs.take k)) x := by
  obtain ⟨hk, rfl⟩ := List.getElem?_eq_some_iff.1 h
  unfold strm
  rw [List.take_succ_eq_append_getElem hk, List.foldl_append]; rfl
set_option maxHeartbeats 400000 in
theorem refStream_any (a : Option Addr) (len cap : Nat) (xs : List (BitVec 32)) (w : World) (h : IsU32 w a len xs) :
    Calls Tryz.prog 54 #[.slice a len cap] w fun e w' => e = .returned (.int .u32 ((strm xs).toNat : Int)) ∧ w = w' := by
  obtain ⟨hl, hmax, hc⟩ := h
  unfold maxLen at hmax
  have HC := Lib.hid hc
  have HL := Lib.hid hl
  clear hc hl
  go_enter Tryz.func54, Tryz.ntmps54
  go_wp2_with fail
  go_loop [3, 5, 8] (fun t _ i => ∃ k : Nat, k ≤ len ∧ i = .int .i64 k ∧ t = .int .u32 ((strm (xs.take k)).toNat : Int)) (fun _ _ i => len - (intOf i).toNat)
  case atStart => exact ⟨0, by omega, rfl, rfl⟩
  case round =>
    obtain ⟨k, hk, rfl, rfl⟩ := hrel
    by_cases hlt : k < len
    · have hx : ∃ x, xs[k]? = some x := ⟨xs[k]'(by have := HL.out; omega), List.getElem?_eq_getElem _⟩
      obtain ⟨x, hx⟩ := hx
      obtain ⟨b, off, rfl, _, hcell⟩ := HC.out k x hx
      have HX := Lib.hid (strm_take xs k x hx)
      clear hx
      go_wp2_with fail
      refine (refCombine_any _ _ _).mono ?_
      rintro e w' ⟨rfl, rfl⟩
      go_wp2_with fail
      go_round
      case rel => exact ⟨k + 1, by omega, by go_num, by rw [HX.out]⟩
      case measure => simp [intOf]; omega
    · obtain rfl : k = len := by omega
      go_wp2_with fail
      go_ret
      rw [List.take_of_length_le (by rw [HL.out]; omega)]
      exact ⟨rfl, rfl⟩

theorem rot_inj {x y : BitVec 32} (h : rot x = rot y) : x = y := by
  apply BitVec.eq_of_getLsbD_eq
  intro i hi
  unfold rot at h
  by_cases h31 : i = 31
  · subst h31
    have h2 := congrArg (fun v : BitVec 32 => v.getLsbD 0) h
    simp only [BitVec.getLsbD_rotateLeft] at h2
    simpa using h2
  · have h2 := congrArg (fun v : BitVec 32 => v.getLsbD (i + 1)) h
    simp only [BitVec.getLsbD_rotateLeft] at h2
    simpa [show i + 1 < 32 by omega] using h2
theorem cmb_inj_left {x y b : BitVec 32} (h : cmb x b = cmb y b) : x = y := rot_inj (by
  unfold cmb at h
  have := congrArg (· ^^^ b) h
  simpa [BitVec.xor_assoc] using this)
theorem cmb_inj_right {x a b : BitVec 32} (h : cmb x a = cmb x b) : a = b := by
  unfold cmb at h
  have := congrArg (rot x ^^^ ·) h
  simpa [← BitVec.xor_assoc] using this
theorem foldl_cmb_inj (l : List (BitVec 32)) : ∀ {x y : BitVec 32}, l.foldl cmb x = l.foldl cmb y → x = y := by
  induction l with
  | nil => intro x y h; exact h
  | cons b l ih => intro x y h; exact cmb_inj_left (ih h)
/-- ONE SUM CHANGED CHANGES THE STREAM's. -/
theorem strm_set (xs : List (BitVec 32)) (i : Nat) (y : BitVec 32) (hi : i < xs.length) : (strm xs = strm (xs.set i y)) ↔ xs[i] = y := by
  have h1 : xs = xs.take i ++ xs[i] :: xs.drop (i + 1) := by simp
  have h2 : xs.set i y = xs.take i ++ y :: xs.drop (i + 1) := List.set_eq_take_append_cons_drop .. |>.trans (by rw [if_pos hi])
  constructor
  · intro h
    rw [h2] at h
    conv at h => lhs; rw [h1]
    unfold strm at h
    rw [List.foldl_append, List.foldl_append] at h
    exact cmb_inj_right (foldl_cmb_inj _ h)
  · rintro rfl
    rw [List.set_getElem_self]
theorem u32_of_row {w : World} {a : Option Addr} {len cap : Nat} {z : List Int} (h : IsRow .u32 w a len cap z) : ∃ xs, IsU32 w a len xs := by
  rcases h with ⟨rfl, rfl, rfl, rfl⟩ | ⟨x, rfl, hl, hm, hz, hcell, hwf⟩
  · exact ⟨[], rfl, by decide, fun i x h => by simp at h⟩
  · refine ⟨(z.take len).map fun n => BitVec.ofNat 32 n.toNat, by simp; omega, by omega, fun i y hy => ?_⟩
    have hi := (List.getElem?_eq_some_iff.1 hy).1
    simp at hi
    obtain ⟨b, off, spot⟩ := x
    have hspot : spot = none := by simpa [Addr.add] using World.cell?_spot (hcell 0 (by omega))
    subst hspot
    have hc := hcell i (by omega)
    rw [add_plain] at hc
    have hw := hwf (z.getD i 0) (by rw [List.getD_eq_getElem?_getD, List.getElem?_eq_getElem (by omega)]; exact List.getElem_mem _)
    have hx : 0 ≤ z.getD i 0 ∧ z.getD i 0 ≤ 4294967295 := by simpa [Lit.wf, IntKind.min, IntKind.max, IntKind.signed, IntKind.bits] using hw
    refine ⟨b, off, rfl, World.block_lt_of_cell? w _ hc, ?_⟩
    rw [hc]
    have hiz : i < z.length := by omega
    have hil : i < len := by omega
    have : y = BitVec.ofNat 32 (z.getD i 0).toNat := by
      rw [List.getElem?_map, List.getElem?_take, if_pos hil, List.getElem?_eq_getElem hiz] at hy
      rw [List.getD_eq_getElem?_getD, List.getElem?_eq_getElem hiz]
      exact (Option.some.inj hy).symm
    rw [this]
    simp only [Option.some.injEq, Value.int.injEq, true_and, BitVec.toNat_ofNat]
    omega
/-- The row with one changed. -/
def oth (xs : List (BitVec 32)) (p : Int) (y : BitVec 32) : List (BitVec 32) := if 0 ≤ p then xs.set p.toNat y else xs
theorem oth_length (xs : List (BitVec 32)) (p : Int) (y : BitVec 32) : (oth xs p y).length = xs.length := by unfold oth; split <;> simp
theorem oth_take (xs : List (BitVec 32)) (p : Int) (y : BitVec 32) (k : Nat) (x : BitVec 32) (h : xs[k]? = some x) :
    (oth xs p y).take (k + 1) = (oth xs p y).take k ++ [if (k : Int) = p then y else x] := by
  obtain ⟨hk, rfl⟩ := List.getElem?_eq_some_iff.1 h
  have hk' : k < (oth xs p y).length := by rw [oth_length]; exact hk
  rw [List.take_succ_eq_append_getElem hk']
  congr 2
  by_cases hp : 0 ≤ p
  · have e0 : (oth xs p y)[k] = (xs.set p.toNat y)[k]'(by simpa using hk) := by simp only [oth, if_pos hp]
    rw [e0, List.getElem_set]
    by_cases e : (k : Int) = p
    · rw [if_pos e, if_pos (by omega)]
    · rw [if_neg e, if_neg (by omega)]
  · have e0 : (oth xs p y)[k] = xs[k] := by simp only [oth, if_neg hp]
    rw [e0, if_neg (by omega)]
theorem oth_out (xs : List (BitVec 32)) (p : Int) (y : BitVec 32) (h : p < 0 ∨ (xs.length : Int) ≤ p) : oth xs p y = xs := by
  unfold oth
  split
  · exact List.set_eq_of_length_le (by omega)
  · rfl
theorem toNat_beq {x y : BitVec 32} (h : ¬ x = y) : ((x.toNat : Int) == (y.toNat : Int)) = false := by
  simp only [beq_eq_false_iff_ne, ne_eq]
  intro e
  exact h (BitVec.eq_of_toNat_eq (by omega))
def u32v (x : BitVec 32) : Value := .int .u32 (x.toNat : Int)
theorem u32_of_own {w : World} {base e : Nat} {v : Value} {n : Nat} {xs : List (BitVec 32)} (h : w.ownsRow base e 1 v n (xs.map u32v)) (hn : n ≤ maxLen) : ∃ a cap, v = .slice a n cap ∧ IsU32 w a n xs := by
  have hl : xs.length = n := by simpa using h.1
  rcases h.2 with ⟨rfl, rfl⟩ | ⟨g, cap, cur, rfl, _, hg, _⟩
  · refine ⟨none, 0, rfl, hl, hn, fun i x hx => ?_⟩
    have := (List.getElem?_eq_some_iff.1 hx).1
    omega
  · refine ⟨some ⟨g, 0, none⟩, cap, rfl, hl, hn, fun i x hx => ⟨g, 0, rfl, (Array.getElem?_eq_some_iff.1 hg).1, ?_⟩⟩
    have hi := (List.getElem?_eq_some_iff.1 hx).1
    rw [Nat.zero_add, h.cellAt i (by omega)]
    simp [hx, u32v]
theorem info27 : (Tryz.prog.info? 62).map (fun i => (i.zero, i.size, i.bytes)) = some (some (.int .u32 0), 1, 4) := by kernel_rfl

end Go.Proofs.YtnffkbpgcidpkaaGreatDoor
namespace Go.Proofs.YtnffkbpgcidpkaaGreatDoor
open Go.RowKit BitM CrcM
set_option linter.unusedVariables false
set_option linter.unusedSimpArgs false
set_option maxHeartbeats 1000000 in
theorem runit21_any (r : Int) (w : World) : Calls Tryz.prog 35 #[.int .i64 r] w fun e w' => e = .returned (.bool (decide (24 ≤ r ∧ r ≤ 100000))) ∧ w' = w := by
  by_cases h1 : r < 24
  · have h2 : ¬ r ≥ 24 := by omega
    have h3 : decide (24 ≤ r ∧ r ≤ 100000) = false := by rw [decide_eq_false_iff_not]; omega
    rw [h3]
    go_enter Tryz.func35, Tryz.ntmps35
    go_wp2_with fail
    go_ret
    exact ⟨rfl, rfl⟩
  · have h2 : r ≥ 24 := by omega
    by_cases h4 : r ≤ 100000
    · have h3 : decide (24 ≤ r ∧ r ≤ 100000) = true := by rw [decide_eq_true_eq]; omega
      rw [h3]
      go_enter Tryz.func35, Tryz.ntmps35
      go_wp2_with fail
      go_ret
      exact ⟨rfl, rfl⟩
    · have h3 : decide (24 ≤ r ∧ r ≤ 100000) = false := by rw [decide_eq_false_iff_not]; omega
      rw [h3]
      go_enter Tryz.func35, Tryz.ntmps35
      go_wp2_with fail
      go_ret
      exact ⟨rfl, rfl⟩
set_option maxHeartbeats 1000000 in
theorem rhead21_any (L : Nat) (w : World) (h9 : L ≤ 9) : Calls Tryz.prog 36 #[.int .i64 (L : Int)] w fun e w' => e = .returned (.string (txt (headQ L 4))) ∧ w' = w := by
  have hcut := digit_cut L h9
  obtain ⟨D, hD⟩ : ∃ D : ByteArray, (⟨#[UInt8.ofNat (48 + L)]⟩ : ByteArray) = D := ⟨_, rfl⟩
  have hDs : D.size = 1 := by rw [← hD]; rfl
  have hb := head_bits L h9
  rw [hD] at hcut hb
  have hT : ((⟨#[66, 90, 104]⟩ : ByteArray) ++ D).size = 4 := by rw [ByteArray.size_append, hDs]; rfl
  have HBT := Lib.hid (fun W => bitsTxt_any ((⟨#[66, 90, 104]⟩ : ByteArray) ++ D) W (by omega))
  rw [hb] at HBT
  have hs1 : ∀ W, (Instr.slice 9 (.string ⟨#[48, 49, 50, 51, 52, 53, 54, 55, 56, 57]⟩) (some (.int .i64 (L : Int))) (some (.int .i64 ((L : Int) + 1))) none).run Tryz.prog W = .ok (.string D) W := fun W => by
    rw [run_slice_string_if (P := Tryz.prog) (w := W) 9 ⟨#[48, 49, 50, 51, 52, 53, 54, 55, 56, 57]⟩ .i64 .i64 (L : Int) ((L : Int) + 1) Tryz.underlying9, if_pos (by show 0 ≤ (L : Int) + 1 ∧ (L : Int) + 1 ≤ 10; omega), if_pos (by omega)]
    rw [show ((L : Int)).toNat = L by omega, show ((L : Int) + 1).toNat = L + 1 by omega, hcut]
  clear hD hb hcut
  go_enter Tryz.func36, Tryz.ntmps36
  go_wp2_with fail
  refine (HBT.out _).mono ?_
  rintro e w1 ⟨rfl, rfl⟩
  go_wp2_with fail
  go_ret
  exact ⟨rfl, rfl⟩
/-- A row of sums of the call's own. -/
def OwnU (w : World) (base : Nat) (v : Value) (xs : List (BitVec 32)) : Prop := w.ownsRow base 62 1 v xs.length (xs.map u32v)
theorem OwnU.nil (w : World) (base : Nat) : OwnU w base (.slice none 0 0) [] := World.ownsRow_nil _ _ _ _
theorem OwnU.slice {w : World} {base : Nat} {v : Value} {xs : List (BitVec 32)} (h : OwnU w base v xs) : ∃ a cap, v = .slice a xs.length cap := slice_of_own h
theorem OwnU.lt {w : World} {base : Nat} {v : Value} {xs : List (BitVec 32)} (h : OwnU w base v xs) : ∀ k, v.ownBlock = some k → base ≤ k ∧ k < w.heap.size := World.ownsRow.lt h
theorem OwnU.same {w w' : World} {base : Nat} {v : Value} {xs : List (BitVec 32)} (h : OwnU w base v xs) (he : ∀ k, v.ownBlock = some k → w'.heap[k]? = w.heap[k]?) : OwnU w' base v xs := ownsRow_other h he
theorem OwnU.below {w w' : World} {base : Nat} {v : Value} {xs : List (BitVec 32)} (h : OwnU w base v xs) (hb : Below w.heap.size w w') : OwnU w' base v xs := h.same (fun k hk => hb.block k (h.lt k hk).2)
theorem OwnU.u32 {w : World} {base : Nat} {v : Value} {xs : List (BitVec 32)} (h : OwnU w base v xs) (hn : xs.length ≤ 1000000) : ∃ a cap, v = .slice a xs.length cap ∧ IsU32 w a xs.length xs := u32_of_own h (by unfold maxLen; omega)
set_option maxHeartbeats 400000 in
theorem push_u32 {ops : Array Oper} {rest : List Oper} {o : Oper} {a : Act} {Q : Exit → Act → World → Prop} (W : World) (hgd : o.guard = none) (s x : Operand)
    (ho : o.op = .call { callee := .builtin .append, args := #[s, x], argTypes := #[73, 73] })
    (B : Nat) (v : Value) (xs : List (BitVec 32)) (c : BitVec 32) (hown : OwnU W B v xs) (hs : a.eval s = v) (G : Nat) (hG : W.heap.size = G) (hx : a.eval x = .slice (some ⟨G, 0, none⟩) 1 1)
    (hlen : xs.length ≤ 1000000) (hb : B ≤ W.heap.size)
    (h : ∀ v' w', OwnU w' B v' (xs ++ [c]) → Touch (fun k => v.ownBlock = some k) W w' → (∀ k, v'.ownBlock = some k → v.ownBlock = some k ∨ W.heap.size ≤ k) → wpList Tryz.prog ops Q rest (a.put o.dst v') w') :
    wpList Tryz.prog ops Q (o :: rest) a (W.alloc (.cells #[.int .u32 (c.toNat : Int)] 62)) := by
  subst hG
  obtain ⟨i0, hi, hz0, hz1, hz2⟩ := info_parts info27
  refine wpList_append_own2 hgd s x 73 ho B 62 i0 (.int .u32 0) 1 4 Tryz.underlying73 hi hz0 hz1 hz2 rfl (by decide) v xs.length (xs.map u32v) (World.ownsRow.alloc hown _) hs ⟨W.heap.size, 0, none⟩ 1 1 [.int .u32 (c.toNat : Int)] hx rfl ?_ ?_ ?_ ?_ ?_ ?_
  · exact news_new _ _ _ _ rfl
  · intro u hu; simp at hu; subst hu; rfl
  · unfold maxLen; omega
  · omega
  · simp; omega
  · intro v' w' hown' hg hv
    refine h v' w' ?_ ?_ (fun k hk => (hv k hk).imp id (fun h => by simp at h; omega))
    · unfold OwnU
      rw [List.length_append, List.map_append]
      exact hown'
    · exact ⟨hg.os, hg.tape, hg.output, by have := hg.size; simp at this; omega, fun k hk hn => (hg.block k (by simp; omega) (fun e => hn e.symm)).trans (alloc_old hk)⟩
set_option maxHeartbeats 1000000 in
theorem rtail21_any (a : Option Addr) (len cap : Nat) (xs : List (BitVec 32)) (w : World) (h : IsU32 w a len xs) : Calls Tryz.prog 41 #[.slice a len cap] w fun e w' => e = .returned (.string (txt (tailQ ++ field (strm xs).toNat 32))) ∧ w' = w := by
  have HS := Lib.hid (refStream_any a len cap xs w h)
  have HF := Lib.hid (fun W => fieldTxt_any (strm xs).toNat 32 W (by omega) (strm xs).isLt)
  have HT : Hid (txt (tailQ ++ field (strm xs).toNat 32) = ⟨#[48,48,48,49,48,49,49,49,48,49,49,49,48,48,49,48,48,49,48,48,48,49,48,49,48,48,49,49,49,48,48,48,48,49,48,49,48,48,48,48,49,48,48,49,48,48,48,48]⟩ ++ txt (field (strm xs).toNat 32)) := Lib.hid (by rw [← txt_append, end_txt])
  have hz : (txt (field (strm xs).toNat 32)).size = 32 := by rw [txt_size, field_length]
  have h48 : (⟨#[48,48,48,49,48,49,49,49,48,49,49,49,48,48,49,48,48,49,48,48,48,49,48,49,48,48,49,49,49,48,48,48,48,49,48,49,48,48,48,48,49,48,48,49,48,48,48,48]⟩ : ByteArray).size = 48 := rfl
  obtain ⟨T, hTT⟩ : ∃ T, txt (field (strm xs).toNat 32) = T := ⟨_, rfl⟩
  rw [hTT] at hz HT HF
  clear hTT h
  go_enter Tryz.func41, Tryz.ntmps41
  go_wp2_with fail
  refine HS.out.mono ?_
  rintro e w1 ⟨rfl, rfl⟩
  go_wp2_with fail
  refine (HF.out _).mono ?_
  rintro e w1 ⟨rfl, rfl⟩
  go_wp2_with fail
  go_ret
  exact ⟨by rw [HT.out]; rfl, rfl⟩
end Go.Proofs.YtnffkbpgcidpkaaGreatDoor
namespace Go.Proofs.YtnffkbpgcidpkaaGreatDoor
open Go.RowKit RleM
set_option linter.unusedVariables false
set_option maxRecDepth 100000 in
set_option maxHeartbeats 1000000 in
theorem refPieces_any (s : ByteArray) (w : World) (hs : s.size ≤ 549755813888) :
    Calls Tryz.prog 46 #[.string s] w fun e w' => ∃ v, e = .returned v ∧ w'.ownsRow w.heap.size 89 2 v (pieces s.data.toList).length ((pieces s.data.toList).flatMap pcCells) ∧ Below w.heap.size w w' := by
  obtain ⟨i0, hi, hz0, hz1, hz2⟩ := info_parts infoPiece
  have HI := Lib.hid hi
  have HZ0 := Lib.hid hz0
  have HZ1 := Lib.hid hz1
  have HZ2 := Lib.hid hz2
  have HCnt := Lib.hid (pieces_count s.data.toList)
  have HZ := Lib.hid (show s.data.toList.length = s.size from rfl)
  clear hi hz0 hz1 hz2
  go_enter Tryz.func46, Tryz.ntmps46
  go_wp2_with fail
  go_loopw [0, 3, 4] (fun t v _ wr => ∃ (u : ByteArray) (ps : List Pc), t = .string u ∧ u.size ≤ s.size ∧ Hid (pieces s.data.toList = ps ++ pieces u.data.toList) ∧ Hid (wr.ownsRow w.heap.size 89 2 v ps.length (ps.flatMap pcCells)) ∧ Hid (Below w.heap.size w wr)) (fun t _ _ _ => vsize t)
  case atStart => exact ⟨s, [], rfl, Nat.le_refl _, Lib.hid rfl, Lib.hid (World.ownsRow_nil _ _ _ _), Lib.hid (Below.refl _ _)⟩
  case round =>
    obtain ⟨u, ps, rfl, hu, hps, hO, hB⟩ := hrel
    by_cases h0 : 0 < u.size
    · obtain ⟨c, l, hL⟩ := text_cons h0
      have hc : u[0] = c := by have := rlbyte_at hL h0; simpa using this.symm
      have HL := Lib.hid hL
      have HC := Lib.hid hc
      have hr1 : 1 ≤ row u.data.toList := by rw [hL]; exact row_pos c l
      have hr2 : row u.data.toList ≤ u.size := row_le _
      have hr3 : row u.data.toList ≤ 255 := row_255 _
      have hpn : ps.length ≤ s.size := by have h1 := HCnt.out; have h2 := HZ.out; rw [hps.out, List.length_append] at h1; omega
      have hbs := hB.out.size
      clear hL hc
      go_wp2_with fail
      refine (refRow_any u wr h0 (by unfold maxLen; omega)).mono ?_
      rintro e w' ⟨rfl, m, rfl⟩
      generalize hR : row u.data.toList = R at *
      have HR := Lib.hid hR
      have HOm := Lib.hid (show (wr.drewN m).ownsRow w.heap.size 89 2 _ ps.length (ps.flatMap pcCells) from hO.out)
      have HBm := Lib.hid (hB.out.trans (show Below w.heap.size wr (wr.drewN m) from ⟨rfl, rfl, rfl, Nat.le_refl _, fun _ _ => rfl⟩))
      clear hR hO hB
      go_wp2_with (at_builtin; refine wpList_append_own _ rfl _ _ 86 rfl w.heap.size 89 i0 (.agg #[.int .u8 0, .int .i64 0]) 2 16 Tryz.underlying86 HI.out HZ0.out HZ1.out HZ2.out rfl (by decide) _ _ _ rfl (HOm.out.alloc _) ⟨wr.heap.size, 0, none⟩ 1 1 [.int .u8 (u[0].toNat : Int), .int .i64 (R : Int)] rfl rfl ?c1 ?c2 ?c3 ?c4 ?c5 ?_)
      case c1 => exact news_new _ _ _ _ rfl
      case c2 => intro x hx; simp at hx; rcases hx with rfl | rfl <;> rfl
      case c3 => unfold maxLen; omega
      case c4 => omega
      case c5 => simp; omega
      intro v' w1 hown' hgrow _
      obtain ⟨a', c', rfl⟩ := slice_of_own hown'
      have HO1 := Lib.hid hown'
      have HB1 := Lib.hid (Below.grown (HBm.out.alloc (by simp; omega) _) hgrow (by simp; omega) (fun j hj => (HOm.out.lt j hj).1))
      clear hown' hgrow
      go_wp2_with fail
      go_roundw
      case rel =>
        refine ⟨_, ps ++ [(u[0], R)], rfl, by simp [ByteArray.size_extract]; omega, Lib.hid (by rw [hps.out, ext_data, HL.out, pieces_cons, ← HL.out, HR.out, HC.out]; simp), Lib.hid ?_, HB1⟩
        have h := HO1.out
        have e : (ps ++ [(u[0], R)]).flatMap pcCells = ps.flatMap pcCells ++ [.int .u8 (u[0].toNat : Int), .int .i64 (R : Int)] := by simp [pcCells]
        rw [e, List.length_append]
        exact h
      case measure => simp [vsize, ByteArray.size_extract]; omega
    · have hz : u.size = 0 := by omega
      have hnil : u.data.toList = [] := List.eq_nil_of_length_eq_zero hz
      have HN := Lib.hid hnil
      obtain ⟨a', c', hv⟩ := slice_of_own hO.out
      clear hz hnil
      go_wp2_with fail
      go_ret
      rw [hps.out, HN.out, pieces_nil, List.append_nil]
      exact ⟨_, rfl, hO.out, hB.out⟩
/-- A ROW OF PIECES, AS A WALK READS IT. -/
def IsPcs (w : World) (B : Nat) (v : Value) (ps : List Pc) : Prop :=
  ∃ (a : Option Addr) (cap : Nat), v = .slice a ps.length cap ∧ ∀ k p, ps[k]? = some p → ∃ g, a = some ⟨g, 0, none⟩ ∧ B ≤ g ∧ g < w.heap.size ∧ w.cell? ⟨g, k * 2, none⟩ = some (.int .u8 (p.1.toNat : Int)) ∧ w.cell? ⟨g, k * 2 + 1, none⟩ = some (.int .i64 (p.2 : Int))
theorem flat_cells : ∀ (ps : List Pc) (k : Nat) (p : Pc), ps[k]? = some p → (ps.flatMap pcCells)[k * 2]? = some (.int .u8 (p.1.toNat : Int)) ∧ (ps.flatMap pcCells)[k * 2 + 1]? = some (.int .i64 (p.2 : Int))
  | [], k, p, h => by simp at h
  | q :: ps, 0, p, h => by
    have : q = p := by simpa using h
    subst this
    exact ⟨rfl, rfl⟩
  | q :: ps, k + 1, p, h => by
    have ih := flat_cells ps k p (by simpa using h)
    rw [List.flatMap_cons]
    have e : (pcCells q).length = 2 := rfl
    rw [List.getElem?_append_right (by rw [e]; omega), List.getElem?_append_right (by rw [e]; omega), e]
    rw [show (k + 1) * 2 - 2 = k * 2 from by omega, show (k + 1) * 2 + 1 - 2 = k * 2 + 1 from by omega]
    exact ih
theorem pcs_of_own {w : World} {B : Nat} {v : Value} {ps : List Pc} (h : w.ownsRow B 89 2 v ps.length (ps.flatMap pcCells)) : IsPcs w B v ps := by
  have hc := h
  rcases h.2 with ⟨rfl, h0⟩ | ⟨g, cap, cur, rfl, hB, hg, hr⟩
  · refine ⟨none, 0, by rw [h0], fun k p hk => ?_⟩
    have := (List.getElem?_eq_some_iff.1 hk).1
    omega
  · refine ⟨_, cap, rfl, fun k p hk => ⟨g, rfl, hB, (Array.getElem?_eq_some_iff.1 hg).1, ?_, ?_⟩⟩
    · have := hc.cells (g := g) rfl (k * 2) _ (flat_cells ps k p hk).1
      rwa [Addr.add_lit, Nat.zero_add] at this
    · have := hc.cells (g := g) rfl (k * 2 + 1) _ (flat_cells ps k p hk).2
      rwa [Addr.add_lit, Nat.zero_add] at this
theorem IsPcs.later {w w' : World} {B : Nat} {v : Value} {ps : List Pc} (h : IsPcs w B v ps) (hb : Below w.heap.size w w') : IsPcs w' B v ps := by
  obtain ⟨a, cap, rfl, hc⟩ := h
  refine ⟨a, cap, rfl, fun k p hk => ?_⟩
  obtain ⟨g, h1, h2, h3, h4, h5⟩ := hc k p hk
  have := hb.size
  exact ⟨g, h1, h2, by omega, (hb.cell (p := ⟨g, k * 2, none⟩) h3).trans h4, (hb.cell (p := ⟨g, k * 2 + 1, none⟩) h3).trans h5⟩
set_option maxRecDepth 100000 in
set_option maxHeartbeats 1000000 in
theorem refPiece_any (p : Pc) (w : World) (h2 : p.2 ≤ 255) :
    Calls Tryz.prog 47 #[pcv p] w fun e w' => e = .returned (.string ⟨(packP p).toArray⟩) ∧ Below w.heap.size w w' := by
  obtain ⟨c, n⟩ := p
  simp only at h2
  unfold pcv
  simp only
  go_enter Tryz.func47, Tryz.ntmps47
  go_wp2_with fail
  go_loopw [3, 4, 7] (fun t _ i wr => ∃ k : Nat, k ≤ n ∧ i = .int .i64 k ∧ t = .string ⟨(List.replicate (min k 4) c).toArray⟩ ∧ Hid (wr.heap[w.heap.size]? = some (.cells #[.int .u8 (c.toNat : Int), .int .i64 (n : Int)] 89 (0, 0))) ∧ Hid (Below w.heap.size w wr)) (fun _ _ i _ => n - (intOf i).toNat)
  case atStart => exact ⟨0, by omega, rfl, rfl, Lib.hid (heap_alloc_new _ _), Lib.hid ((Below.refl _ _).alloc (Nat.le_refl _) _)⟩
  case round =>
    obtain ⟨k, hk, rfl, rfl, hK, hB⟩ := hrel
    have a0 : wr.cell? ⟨w.heap.size, 0, none⟩ = some (.int .u8 (c.toNat : Int)) := by rw [cell_of_row _ _ _ _ _ _ hK.out]; rfl
    have a1 : wr.cell? ⟨w.heap.size, 1, none⟩ = some (.int .i64 (n : Int)) := by rw [cell_of_row _ _ _ _ _ _ hK.out]; rfl
    have hlt0 := (Array.getElem?_eq_some_iff.1 hK.out).1
    have hbs := hB.out.size
    by_cases hlt : k < n
    · by_cases h4 : (k : Int) < 4
      · have hcv := one_conv wr c _ rfl
        have hsz : (⟨(List.replicate (min k 4) c).toArray⟩ : ByteArray).size + (⟨#[c]⟩ : ByteArray).size ≤ 100 := by
          rw [text_size, List.length_replicate]
          show _ + 1 ≤ _
          omega
        have HR := Lib.hid (show List.replicate (min k 4) c ++ [c] = List.replicate (min (k + 1) 4) c by
          rw [show min k 4 = k from by omega, show min (k + 1) 4 = k + 1 from by omega, List.replicate_succ'])
        generalize List.replicate (min k 4) c = R at *
        go_wp2_with fail
        go_roundw
        case rel => exact ⟨k + 1, by omega, by go_num, by rw [← HR.out, ← text_append], Lib.hid ((Below.heap_alloc _ _ _ hlt0).trans hK.out), Lib.hid (hB.out.alloc hbs _)⟩
        case measure => simp [intOf]; omega
      · have HR := Lib.hid (show List.replicate (min k 4) c = List.replicate (min (k + 1) 4) c by
          rw [show min k 4 = 4 from by omega, show min (k + 1) 4 = 4 from by omega])
        generalize List.replicate (min k 4) c = R at *
        go_wp2_with fail
        go_roundw
        case rel => exact ⟨k + 1, by omega, by go_num, by rw [← HR.out], hK, hB⟩
        case measure => simp [intOf]; omega
    · obtain rfl : k = n := by omega
      by_cases h4 : (4 : Int) ≤ (k : Int)
      · have hx : ((k : Int) - 4) = ((UInt8.ofNat (k - 4)).toNat : Int) := by rw [UInt8.toNat_ofNat']; omega
        have hcv := one_conv wr (UInt8.ofNat (k - 4)) ((k : Int) - 4) hx
        have HP := Lib.hid (show packP (c, k) = List.replicate (min k 4) c ++ [UInt8.ofNat (k - 4)] by
          unfold packP; rw [if_neg (by simp; omega), show min k 4 = 4 from by omega])
        have hsz : (⟨(List.replicate (min k 4) c).toArray⟩ : ByteArray).size + (⟨#[UInt8.ofNat (k - 4)]⟩ : ByteArray).size ≤ 100 := by
          rw [text_size, List.length_replicate]
          show _ + 1 ≤ _
          omega
        clear hx
        generalize List.replicate (min k 4) c = R at *
        go_wp2_with fail
        go_ret
        exact ⟨by rw [HP.out, ← text_append]; rfl, hB.out.alloc hbs _⟩
      · have HP := Lib.hid (show packP (c, k) = List.replicate (min k 4) c by
          unfold packP; rw [if_pos (by simp; omega), show min k 4 = k from by omega])
        generalize List.replicate (min k 4) c = R at *
        go_wp2_with fail
        go_ret
        exact ⟨by rw [HP.out]; rfl, hB.out⟩
end Go.Proofs.YtnffkbpgcidpkaaGreatDoor
namespace Go.Proofs.YtnffkbpgcidpkaaGreatDoor
open Go.RowKit RleM
set_option linter.unusedVariables false
theorem pack_take {ps : List Pc} {k : Nat} {p : Pc} (h : ps[k]? = some p) : pack (ps.take (k + 1)) = pack (ps.take k) ++ packP p := by
  rw [List.take_add_one, h]
  simp [pack]
theorem pack_take_le {l : List UInt8} (k : Nat) : 4 * (pack ((pieces l).take k)).length ≤ 5 * l.length := by
  have hg := good l
  have hf := flat_pieces l
  rw [← List.take_append_drop k (pieces l)] at hg hf
  have h2 := pack_small _ (good_left hg)
  rw [flat_append] at hf
  have : (flat ((pieces l).take k)).length ≤ l.length := by
    have h3 : l.length = (flat ((pieces l).take k) ++ flat ((pieces l).drop k)).length := by rw [hf]
    rw [List.length_append] at h3; omega
  omega
theorem data_get0 {s : ByteArray} {k : Nat} (hk : k < s.size) : s.data.toList[k]? = some s[k] := rlbyte_at rfl hk
theorem good_mem : ∀ {ps : List Pc} {p : Pc}, RleM.Good ps → p ∈ ps → 1 ≤ p.2 ∧ p.2 ≤ 255
  | q :: ps, p, h, hm => by
    rcases List.mem_cons.1 hm with rfl | hm
    · exact ⟨h.1, h.2.1⟩
    · exact good_mem h.2.2.2 hm
  | [], p, _, hm => by cases hm
theorem four_short {l : List UInt8} (h : l.length < 4) : four l = false := by
  match l, h with
  | [], _ => rfl
  | [_], _ => rfl
  | [_, _], _ => rfl
  | [_, _, _], _ => rfl
theorem four_eq {s : ByteArray} (h : 4 ≤ s.size) : four s.data.toList = (s[0] == s[1] && s[1] == s[2] && s[2] == s[3]) := by
  have e0 := data_get0 (s := s) (k := 0) (by omega)
  have e1 := data_get0 (s := s) (k := 1) (by omega)
  have e2 := data_get0 (s := s) (k := 2) (by omega)
  have e3 := data_get0 (s := s) (k := 3) (by omega)
  generalize hL : s.data.toList = L at *
  match L with
  | [] => simp at e0
  | [_] => simp at e1
  | [_, _] => simp at e2
  | [_, _, _] => simp at e3
  | a :: b :: c :: d :: r =>
    simp at e0 e1 e2 e3
    subst e0 e1 e2 e3
    rfl
theorem beq_byte (a b : UInt8) : ((a.toNat : Int) == (b.toNat : Int)) = (a == b) := by
  by_cases h : a = b
  · rw [byte_eq h]; simp [h]
  · rw [byte_ne h]; simp [h]
theorem first_one {s : ByteArray} {c : UInt8} {l : List UInt8} (h : s.data.toList = c :: l) : s.extract 0 1 = ⟨#[c]⟩ := by
  apply ByteArray.ext
  rw [ByteArray.data_extract]
  apply Array.ext'
  rw [Array.toList_extract, h]
  rfl
theorem four_split {l : List UInt8} (h : four l = true) : ∃ c r, l = c :: c :: c :: c :: r := by
  match l, h with
  | a :: b :: c :: d :: r, h =>
    simp only [four, Bool.and_eq_true, beq_iff_eq] at h
    obtain ⟨⟨rfl, rfl⟩, rfl⟩ := h
    exact ⟨a, r, rfl⟩
end Go.Proofs.YtnffkbpgcidpkaaGreatDoor
namespace Go.Proofs.YtnffkbpgcidpkaaGreatDoor
open Go.RowKit
set_option linter.unusedVariables false
set_option linter.unusedSimpArgs false
end Go.Proofs.YtnffkbpgcidpkaaGreatDoor
namespace Go.Proofs.YtnffkbpgcidpkaaGreatDoor
open Go.RowKit RleM SplM
set_option linter.unusedVariables false
set_option linter.unusedSimpArgs false
def crcS (l : List UInt8) : BitVec 32 := CrcM.crc l
set_option maxHeartbeats 1000000 in
theorem rsum19_any (b s : ByteArray) (w : World) (hs : s.size ≤ maxLen) : Calls Tryz.prog 39 #[.agg #[.string b, .string s]] w fun e w' => e = .returned (.int .u32 ((crcS s.data.toList).toNat : Int)) ∧ Below w.heap.size w w' := by
  have HO := Lib.hid (fun W => refOf_any s W hs)
  clear hs
  go_enter Tryz.func39, Tryz.ntmps39
  go_wp2_with fail
  refine (HO.out _).mono ?_
  rintro e w1 ⟨rfl, rfl⟩
  go_wp2_with fail
  go_ret
  exact ⟨rfl, (Below.refl _ _).alloc (Nat.le_refl _) _⟩
/-! ### Rows of the document's blocks -/
def rbL (b : List Pc) : List Value := [.string ⟨(pack b).toArray⟩, .string ⟨(flat b).toArray⟩]
theorem rbL_len (b : List Pc) : (rbL b).length = 2 := rfl
theorem rbs_get : ∀ (bs : List (List Pc)) (i : Nat) (b : List Pc) (j : Nat), bs[i]? = some b → j < 2 → (bs.flatMap rbL)[i * 2 + j]? = (rbL b)[j]?
  | [], i, b, j, h, _ => by simp at h
  | x :: xs, 0, b, j, h, hj => by
    simp at h
    subst h
    rw [List.flatMap_cons, List.getElem?_append_left (by rw [rbL_len]; omega), Nat.zero_mul, Nat.zero_add]
  | x :: xs, i + 1, b, j, h, hj => by
    rw [List.flatMap_cons, List.getElem?_append_right (by rw [rbL_len]; omega), rbL_len]
    have := rbs_get xs i b j (by simpa using h) hj
    rw [show (i + 1) * 2 + j - 2 = i * 2 + j by omega]
    exact this
def OwnRb (W : World) (B : Nat) (v : Value) (bs : List (List Pc)) : Prop := W.ownsRow B 77 2 v bs.length (bs.flatMap rbL)
theorem OwnRb.nil (W : World) (B : Nat) : OwnRb W B (.slice none 0 0) [] := World.ownsRow_nil _ _ _ _
theorem OwnRb.slice {W : World} {B : Nat} {v : Value} {bs : List (List Pc)} (h : OwnRb W B v bs) : ∃ a cap, v = .slice a bs.length cap := slice_of_own h
theorem OwnRb.lt {W : World} {B : Nat} {v : Value} {bs : List (List Pc)} (h : OwnRb W B v bs) : ∀ k, v.ownBlock = some k → B ≤ k ∧ k < W.heap.size := World.ownsRow.lt h
theorem OwnRb.same {W W' : World} {B : Nat} {v : Value} {bs : List (List Pc)} (h : OwnRb W B v bs) (he : ∀ k, v.ownBlock = some k → W'.heap[k]? = W.heap[k]?) : OwnRb W' B v bs := ownsRow_other h he
theorem OwnRb.below {W W' : World} {B : Nat} {v : Value} {bs : List (List Pc)} (h : OwnRb W B v bs) (hb : Below W.heap.size W W') : OwnRb W' B v bs := h.same (fun k hk => hb.block k (h.lt k hk).2)
theorem OwnRb.cell {W : World} {B : Nat} {v : Value} {bs : List (List Pc)} (h : OwnRb W B v bs) {i : Nat} {b : List Pc} (hi : bs[i]? = some b) : ∃ g cap, v = .slice (some ⟨g, 0, none⟩) bs.length cap ∧ g < W.heap.size ∧ B ≤ g ∧
    W.cell? ⟨g, i * 2, none⟩ = some (.string ⟨(pack b).toArray⟩) ∧ W.cell? ⟨g, i * 2 + 1, none⟩ = some (.string ⟨(flat b).toArray⟩) := by
  have hlt := (List.getElem?_eq_some_iff.1 hi).1
  rcases h.2 with ⟨rfl, h0⟩ | ⟨g, cap, cur, rfl, hB, hg, hnc, _, hcs, ht⟩
  · omega
  · have hc : ∀ j, j < 2 → W.cell? ⟨g, i * 2 + j, none⟩ = (rbL b)[j]? := fun j hj => by
      rw [cell_of_row _ _ _ _ _ _ hg, ← rbs_get bs i b j hi hj, ← ht, List.getElem?_take, if_pos (by omega), Array.getElem?_toList]
    exact ⟨g, cap, rfl, (Array.getElem?_eq_some_iff.1 hg).1, hB, hc 0 (by omega), hc 1 (by omega)⟩
theorem infoRb : (Tryz.prog.info? 77).map (fun i => (i.zero, i.size, i.bytes)) = some (some (.agg #[.string ⟨#[]⟩, .string ⟨#[]⟩]), 2, 32) := by kernel_rfl
set_option maxHeartbeats 400000 in
theorem push_rb {ops : Array Oper} {rest : List Oper} {o : Oper} {a : Act} {Q : Exit → Act → World → Prop} (W : World) (hgd : o.guard = none) (s x : Operand)
    (ho : o.op = .call { callee := .builtin .append, args := #[s, x], argTypes := #[74, 74] })
    (B : Nat) (v : Value) (bs : List (List Pc)) (b : List Pc) (s1 s2 : ByteArray) (hA : rbL b = [.string s1, .string s2]) (hown : OwnRb W B v bs) (hs : a.eval s = v) (G : Nat) (hG : W.heap.size = G) (hx : a.eval x = .slice (some ⟨G, 0, none⟩) 1 1)
    (hlen : bs.length ≤ 1000000) (hb : B ≤ W.heap.size)
    (h : ∀ v' w', OwnRb w' B v' (bs ++ [b]) → Touch (fun k => v.ownBlock = some k) W w' → (∀ k, v'.ownBlock = some k → v.ownBlock = some k ∨ W.heap.size ≤ k) → wpList Tryz.prog ops Q rest (a.put o.dst v') w') :
    wpList Tryz.prog ops Q (o :: rest) a (W.alloc (.cells #[.string s1, .string s2] 77)) := by
  subst hG
  obtain ⟨i0, hi, hz0, hz1, hz2⟩ := info_parts infoRb
  refine wpList_append_own2 hgd s x 74 ho B 77 i0 (.agg #[.string ⟨#[]⟩, .string ⟨#[]⟩]) 2 32 Tryz.underlying74 hi hz0 hz1 hz2 rfl (by decide) v bs.length (bs.flatMap rbL) (World.ownsRow.alloc hown _) hs ⟨W.heap.size, 0, none⟩ 1 1 [.string s1, .string s2] hx rfl ?_ ?_ ?_ ?_ ?_ ?_
  · exact news_new _ _ _ _ rfl
  · intro u hu; simp at hu; rcases hu with rfl | rfl <;> rfl
  · unfold maxLen; omega
  · omega
  · simp; omega
  · intro v' w' hown' hg hv
    refine h v' w' ?_ ?_ (fun k hk => (hv k hk).imp id (fun h => by simp at h; omega))
    · unfold OwnRb
      rw [List.length_append, List.flatMap_append]
      simp only [List.flatMap_cons, List.flatMap_nil, List.append_nil]
      rw [hA]
      exact hown'
    · exact ⟨hg.os, hg.tape, hg.output, by have := hg.size; simp at this; omega, fun k hk hn => (hg.block k (by simp; omega) (fun e => hn e.symm)).trans (alloc_old hk)⟩
/-- What stands between two pieces: the blocks so far, and the one that was begun, at block g. -/
structure RfS (w wr : World) (g : Nat) (v : Value) (os : List (List Pc)) (s1 s2 : ByteArray) : Prop where
  box : wr.heap[g]? = some (.cells #[.string s1, .string s2] 77 (0, 0))
  row : OwnRb wr w.heap.size v os
  lap : ∀ k, v.ownBlock = some k → k ≠ g
  base : w.heap.size ≤ g
  below : Below w.heap.size w wr
theorem RfS.later {w wr w' : World} {g : Nat} {v : Value} {os : List (List Pc)} {s1 s2 : ByteArray} (h : RfS w wr g v os s1 s2) (hb : Below wr.heap.size wr w') : RfS w w' g v os s1 s2 :=
  ⟨(hb.block g (Array.getElem?_eq_some_iff.1 h.box).1).trans h.box, h.row.below hb, h.lap, h.base, h.below.trans (hb.mono h.below.size)⟩
theorem RfS.cells {w wr : World} {g : Nat} {v : Value} {os : List (List Pc)} {s1 s2 : ByteArray} (h : RfS w wr g v os s1 s2) : wr.cell? ⟨g, 0, none⟩ = some (.string s1) ∧ wr.cell? ⟨g, 1, none⟩ = some (.string s2) ∧ wr.frozen? ⟨g, 0, none⟩ = false ∧ wr.frozen? ⟨g, 1, none⟩ = false ∧ g < wr.heap.size :=
  ⟨by rw [cell_of_row _ _ _ _ _ _ h.box]; rfl, by rw [cell_of_row _ _ _ _ _ _ h.box]; rfl, frozen_of_row _ _ _ _ _ h.box, frozen_of_row _ _ _ _ _ h.box, (Array.getElem?_eq_some_iff.1 h.box).1⟩
theorem RfS.set0 {w wr : World} {g : Nat} {v : Value} {os : List (List Pc)} {s1 s2 : ByteArray} (h : RfS w wr g v os s1 s2) (s : ByteArray) : RfS w (wr.setCell ⟨g, 0, none⟩ (.string s)) g v os s s2 :=
  ⟨heap_setCell_same _ _ 0 _ _ _ h.box, h.row.same (fun k hk => heap_setCell_other _ _ _ _ (h.lap k hk)), h.lap, h.base, h.below.setCell (p := ⟨g, 0, none⟩) h.base _⟩
theorem RfS.set1 {w wr : World} {g : Nat} {v : Value} {os : List (List Pc)} {s1 s2 : ByteArray} (h : RfS w wr g v os s1 s2) (s : ByteArray) : RfS w (wr.setCell ⟨g, 1, none⟩ (.string s)) g v os s1 s :=
  ⟨heap_setCell_same _ _ 1 _ _ _ h.box, h.row.same (fun k hk => heap_setCell_other _ _ _ _ (h.lap k hk)), h.lap, h.base, h.below.setCell (p := ⟨g, 1, none⟩) h.base _⟩
theorem RfS.pushed {w wr w' : World} {g : Nat} {v v' : Value} {os os' : List (List Pc)} {s1 s2 : ByteArray} (h : RfS w wr g v os s1 s2) (ht : Touch (fun k => v.ownBlock = some k) wr w') (ho : OwnRb w' w.heap.size v' os') (hv : ∀ k, v'.ownBlock = some k → v.ownBlock = some k ∨ wr.heap.size ≤ k) : RfS w w' g v' os' s1 s2 :=
  ⟨(ht.block g h.cells.2.2.2.2 (fun e => h.lap g e rfl)).trans h.box, ho, fun k hk => by
    rcases hv k hk with e | e
    · exact h.lap k e
    · have := h.cells.2.2.2.2; omega, h.base, h.below.trans (ht.below h.below.size (fun k hk => (h.row.lt k hk).1))⟩
end Go.Proofs.YtnffkbpgcidpkaaGreatDoor

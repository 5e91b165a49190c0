/-
  MERGED by seg.py out of: UnA Pieces UpI UpJ UpK UpL UpM.
-/
import Derived.Test.YtnffkbpgcidpkaaGreatDoorUpSegG
import Derived.Test.YtnffkbpgcidpkaaGreatDoorCards
import Derived.Test.YtnffkbpgcidpkaaGreatDoorTie
import Derived.LaidMore
import Derived.Stop.Joined
namespace Go.Proofs.YtnffkbpgcidpkaaGreatDoor
open Go.RowKit BwtM
set_option linter.unusedVariables false
set_option linter.unusedSimpArgs false
/-- The cells of an inverter: C tells of each byte what stands at it. -/
structure InF (F : Nat → Value) (s : ByteArray) (C : Nat → Nat) (lv : Value) (pl : Nat) (tv : Value) (nc nl nf : Nat) : Prop where
  f0 : F 0 = .string s
  fc : ∀ b, b < 256 → F (1 + b) = .int .i64 (C b : Int)
  f257 : F 257 = lv
  f258 : F 258 = .int .i64 (pl : Int)
  f259 : F 259 = tv
  f260 : F 260 = .int .i64 (nc : Int)
  f261 : F 261 = .int .i64 (nl : Int)
  f262 : F 262 = .int .i64 (nf : Int)
def InObj (w : World) (t : Nat) (s : ByteArray) (C : Nat → Nat) (lv : Value) (pl : Nat) (tv : Value) (nc nl nf : Nat) : Prop := ∃ F, ObjF 263 85 w t F ∧ InF F s C lv pl tv nc nl nf
section
variable {w w' : World} {t : Nat} {s : ByteArray} {C : Nat → Nat} {lv tv : Value} {pl nc nl nf : Nat}
theorem InObj.cells (h : InObj w t s C lv pl tv nc nl nf) : w.cell? ⟨t, 0, none⟩ = some (.string s) ∧ w.cell? ⟨t, 257, none⟩ = some (lv) ∧ w.cell? ⟨t, 258, none⟩ = some (.int .i64 (pl : Int)) ∧ w.cell? ⟨t, 259, none⟩ = some (tv) ∧ w.cell? ⟨t, 260, none⟩ = some (.int .i64 (nc : Int)) ∧ w.cell? ⟨t, 261, none⟩ = some (.int .i64 (nl : Int)) ∧ w.cell? ⟨t, 262, none⟩ = some (.int .i64 (nf : Int)) := by
  obtain ⟨F, h1, h2⟩ := h
  refine ⟨?_, ?_, ?_, ?_, ?_, ?_, ?_⟩
  · rw [(h1.cell (i := 0) (by omega)).1, h2.f0]
  · rw [(h1.cell (i := 257) (by omega)).1, h2.f257]
  · rw [(h1.cell (i := 258) (by omega)).1, h2.f258]
  · rw [(h1.cell (i := 259) (by omega)).1, h2.f259]
  · rw [(h1.cell (i := 260) (by omega)).1, h2.f260]
  · rw [(h1.cell (i := 261) (by omega)).1, h2.f261]
  · rw [(h1.cell (i := 262) (by omega)).1, h2.f262]
theorem InObj.count (h : InObj w t s C lv pl tv nc nl nf) {b : Nat} (hb : b < 256) : w.cell? ⟨t, 1 + b, none⟩ = some (.int .i64 (C b : Int)) := by
  obtain ⟨F, h1, h2⟩ := h
  rw [(h1.cell (i := 1 + b) (by omega)).1, h2.fc b hb]
theorem InObj.frozen (h : InObj w t s C lv pl tv nc nl nf) (i : Nat) (hi : i < 263) : w.frozen? ⟨t, i, none⟩ = false := by
  obtain ⟨F, h1, h2⟩ := h
  exact (h1.cell hi).2
theorem InObj.lt (h : InObj w t s C lv pl tv nc nl nf) : t < w.heap.size := by
  obtain ⟨F, h1, h2⟩ := h
  exact h1.lt
theorem InObj.other (h : InObj w t s C lv pl tv nc nl nf) {X : Nat → Prop} (ht : Touch X w w') (hX : ¬ X t) : InObj w' t s C lv pl tv nc nl nf := by
  obtain ⟨F, h1, h2⟩ := h
  exact ⟨F, h1.other ht hX, h2⟩
theorem InObj.setC (h : InObj w t s C lv pl tv nc nl nf) {b : Nat} (hb : b < 256) (x : Nat) : InObj (w.setCell ⟨t, 1 + b, none⟩ (.int .i64 (x : Int))) t s (fun k => if k = b then x else C k) lv pl tv nc nl nf := by
  obtain ⟨F, h1, h2⟩ := h
  refine ⟨_, h1.set (1 + b) _, (upd_ne _ _ (by omega)).trans h2.f0, fun k hk => ?_, (upd_ne _ _ (by omega)).trans h2.f257, (upd_ne _ _ (by omega)).trans h2.f258, (upd_ne _ _ (by omega)).trans h2.f259, (upd_ne _ _ (by omega)).trans h2.f260, (upd_ne _ _ (by omega)).trans h2.f261, (upd_ne _ _ (by omega)).trans h2.f262⟩
  by_cases e : k = b
  · subst e
    rw [if_pos rfl]
    exact upd_same _ _ _
  · rw [if_neg e]
    exact (upd_ne _ _ (by omega)).trans (h2.fc k hk)
theorem InObj.set258 (h : InObj w t s C lv pl tv nc nl nf) (x : Nat) : InObj (w.setCell ⟨t, 258, none⟩ (.int .i64 (x : Int))) t s C lv x tv nc nl nf := by
  obtain ⟨F, h1, h2⟩ := h
  exact ⟨_, h1.set 258 _, (upd_ne _ _ (by omega)).trans h2.f0, fun k hk => (upd_ne _ _ (by omega)).trans (h2.fc k hk), (upd_ne _ _ (by omega)).trans h2.f257, upd_same _ _ _, (upd_ne _ _ (by omega)).trans h2.f259, (upd_ne _ _ (by omega)).trans h2.f260, (upd_ne _ _ (by omega)).trans h2.f261, (upd_ne _ _ (by omega)).trans h2.f262⟩
theorem InObj.set259 (h : InObj w t s C lv pl tv nc nl nf) (x : Value) : InObj (w.setCell ⟨t, 259, none⟩ (x)) t s C lv pl x nc nl nf := by
  obtain ⟨F, h1, h2⟩ := h
  exact ⟨_, h1.set 259 _, (upd_ne _ _ (by omega)).trans h2.f0, fun k hk => (upd_ne _ _ (by omega)).trans (h2.fc k hk), (upd_ne _ _ (by omega)).trans h2.f257, (upd_ne _ _ (by omega)).trans h2.f258, upd_same _ _ _, (upd_ne _ _ (by omega)).trans h2.f260, (upd_ne _ _ (by omega)).trans h2.f261, (upd_ne _ _ (by omega)).trans h2.f262⟩
theorem InObj.set260 (h : InObj w t s C lv pl tv nc nl nf) (x : Nat) : InObj (w.setCell ⟨t, 260, none⟩ (.int .i64 (x : Int))) t s C lv pl tv x nl nf := by
  obtain ⟨F, h1, h2⟩ := h
  exact ⟨_, h1.set 260 _, (upd_ne _ _ (by omega)).trans h2.f0, fun k hk => (upd_ne _ _ (by omega)).trans (h2.fc k hk), (upd_ne _ _ (by omega)).trans h2.f257, (upd_ne _ _ (by omega)).trans h2.f258, (upd_ne _ _ (by omega)).trans h2.f259, upd_same _ _ _, (upd_ne _ _ (by omega)).trans h2.f261, (upd_ne _ _ (by omega)).trans h2.f262⟩
theorem InObj.set261 (h : InObj w t s C lv pl tv nc nl nf) (x : Nat) : InObj (w.setCell ⟨t, 261, none⟩ (.int .i64 (x : Int))) t s C lv pl tv nc x nf := by
  obtain ⟨F, h1, h2⟩ := h
  exact ⟨_, h1.set 261 _, (upd_ne _ _ (by omega)).trans h2.f0, fun k hk => (upd_ne _ _ (by omega)).trans (h2.fc k hk), (upd_ne _ _ (by omega)).trans h2.f257, (upd_ne _ _ (by omega)).trans h2.f258, (upd_ne _ _ (by omega)).trans h2.f259, (upd_ne _ _ (by omega)).trans h2.f260, upd_same _ _ _, (upd_ne _ _ (by omega)).trans h2.f262⟩
theorem InObj.set262 (h : InObj w t s C lv pl tv nc nl nf) (x : Nat) : InObj (w.setCell ⟨t, 262, none⟩ (.int .i64 (x : Int))) t s C lv pl tv nc nl x := by
  obtain ⟨F, h1, h2⟩ := h
  exact ⟨_, h1.set 262 _, (upd_ne _ _ (by omega)).trans h2.f0, fun k hk => (upd_ne _ _ (by omega)).trans (h2.fc k hk), (upd_ne _ _ (by omega)).trans h2.f257, (upd_ne _ _ (by omega)).trans h2.f258, (upd_ne _ _ (by omega)).trans h2.f259, (upd_ne _ _ (by omega)).trans h2.f260, (upd_ne _ _ (by omega)).trans h2.f261, upd_same _ _ _⟩
end
set_option maxHeartbeats 2000000 in
theorem unstep_nil (w : World) (k : Int) : Calls Tryz.prog 63 #[.pointer none, .int .i64 k] w fun e w' => e = .returned (.int .i64 0) ∧ w' = w := by
  go_enter Tryz.func63, Tryz.ntmps63
  go_wp2_with fail
  go_ret
  exact ⟨rfl, rfl⟩
set_option maxHeartbeats 2000000 in
theorem untake_nil (w : World) : Calls Tryz.prog 65 #[.pointer none] w fun e w' => e = .returned (.string ⟨#[]⟩) ∧ w' = w := by
  go_enter Tryz.func65, Tryz.ntmps65
  go_wp2_with fail
  go_ret
  exact ⟨rfl, rfl⟩
set_option maxHeartbeats 2000000 in
theorem unsteps_nil (w : World) : Calls Tryz.prog 62 #[.pointer none] w fun e w' => e = .returned (.int .i64 0) ∧ w' = w := by
  go_enter Tryz.func62, Tryz.ntmps62
  go_wp2_with fail
  go_ret
  exact ⟨rfl, rfl⟩
set_option maxHeartbeats 2000000 in
theorem unheld_nil (w : World) : Calls Tryz.prog 30 #[.pointer none] w fun e w' => e = .returned (.int .i64 0) ∧ w' = w := by
  go_enter Tryz.func30, Tryz.ntmps30
  go_wp2_with fail
  go_ret
  exact ⟨rfl, rfl⟩
set_option maxHeartbeats 2000000 in
theorem undone_nil (w : World) : Calls Tryz.prog 66 #[.pointer none] w fun e w' => e = .returned (.bool false) ∧ ∃ m, w' = w.drewN m := by
  go_enter Tryz.func66, Tryz.ntmps66
  go_wp2_with fail
  go_quiet (fail)
  go_wp2_with fail
  go_ret
  exact ⟨rfl, _, rfl⟩
end Go.Proofs.YtnffkbpgcidpkaaGreatDoor
namespace Go.Proofs.YtnffkbpgcidpkaaGreatDoor
open Go.RowKit BitM
set_option linter.unusedVariables false
theorem ext_dataD (t : ByteArray) (n : Nat) : (t.extract n t.size).data.toList = t.data.toList.drop n := by
  have e : t.size = t.data.toList.length := rfl
  rw [ByteArray.data_extract, e]
  simp only [Array.toList_extract, List.extract_eq_take_drop]
  rw [List.take_of_length_le (by simp)]
theorem ext_takeD (s : ByteArray) (c : Nat) : (s.extract 0 c).data.toList = s.data.toList.take c := by
  rw [ByteArray.data_extract]
  simp only [Array.toList_extract, List.extract_eq_take_drop, List.drop_zero, Nat.sub_zero]
/-- The bytes that are there. -/
def cm (come : Bool) (S : List UInt8) (c : Nat) : List UInt8 := if come then S else S.take c
def rest (come : Bool) (S : List UInt8) (c : Nat) : List Bool := if come then [] else bitsOf (S.drop c)
theorem cm_rest (come : Bool) (S : List UInt8) (c a : Nat) (ha : a ≤ 8 * (cm come S c).length) : (bitsOf S).drop a = (bitsOf (cm come S c)).drop a ++ rest come S c := by
  cases come with
  | true => simp [cm, rest]
  | false =>
    have e : bitsOf S = bitsOf (S.take c) ++ bitsOf (S.drop c) := by rw [← bitsOf_append, List.take_append_drop]
    show (bitsOf S).drop a = (bitsOf (S.take c)).drop a ++ bitsOf (S.drop c)
    rw [e, List.drop_append_of_le_length (by rw [bitsOf_length]; exact ha)]
theorem cm_len (come : Bool) (S : List UInt8) (c : Nat) : (cm come S c).length ≤ S.length := by
  cases come with
  | true => exact Nat.le_refl _
  | false => show (S.take c).length ≤ _; rw [List.length_take]; omega
theorem cm_more (S : List UInt8) (c : Nat) : cm false S c ++ S.drop c = cm true S c := List.take_append_drop c S
end Go.Proofs.YtnffkbpgcidpkaaGreatDoor
namespace Go.Proofs.YtnffkbpgcidpkaaGreatDoor
open Go.RowKit BitM
set_option linter.unusedVariables false
set_option linter.unusedSimpArgs false
section
variable {B x fb ub pk sm : Nat} {rv : Value} {l : List UInt8} {dr sp p : Nat} {win lim U due lev : Int} {uen en sh dn : Bool} {st : Int}
theorem xpfeed_shut (s : ByteArray) (w : World) (h : XpObj w x win lim fb ub pk sm true sh dn st) (hw : 0 < win) : Calls Tryz.prog 18 #[.pointer (some ⟨x, 0, none⟩), .string s] w fun e w' => e = .returned (.int .i64 0) ∧ w' = w := by
  have HM := Lib.hid (xpmade_any w h hw)
  obtain ⟨c0, c1, c2, c3, c4, c5, c6, c9, c10, c11, c12⟩ := h.cells
  clear h
  go_enter Tryz.func18, Tryz.ntmps18
  go_wp2_with fail
  refine HM.out.mono ?_
  rintro e w1 ⟨rfl, hw1⟩
  obtain rfl := hw1.symm
  go_wp2_with fail
  go_ret
  exact ⟨rfl, rfl⟩
set_option maxRecDepth 100000 in
set_option maxHeartbeats 4000000 in
theorem xpfeed_any (s : ByteArray) (n D : Nat) (w : World) (h : Xs B w x fb ub pk sm rv l dr sp p win lim U due lev uen false false false st) (hB : B ≤ w.heap.size) (hsp : sp ≤ dr) (hw : 0 < win) (hw2 : win ≤ 1048576) (hD : (D : Int) = win - (l.length : Int)) (hs : s.size ≤ 1000000) (hn : n = min s.size D) :
    Calls Tryz.prog 18 #[.pointer (some ⟨x, 0, none⟩), .string s] w fun e w' => e = .returned (.int .i64 (n : Int)) ∧ XsP B w x fb ub pk sm (l ++ s.data.toList.take n) dr p win lim U due lev uen false false false st w' := by
  have H := Lib.hid h
  have HM := Lib.hid (xpmade_any w h.obj hw)
  have hwD : win - (l.length : Int) = (D : Int) := hD.symm
  obtain ⟨c0, c1, c2, c3, c4, c5, c6, c9, c10, c11, c12⟩ := h.obj.cells
  have HHD := Lib.hid (fun m => (rheld_any fb rv l dr sp p (w.drewN m) (H.out.below ⟨rfl, rfl, rfl, Nat.le_refl _, fun _ _ => rfl⟩).rdr).mono (R' := fun e w' => e = .returned (.int .i64 (l.length : Int)) ∧ w' = w.drewN m) (by rintro e w' ⟨rfl, rfl⟩; exact ⟨rfl, rfl⟩))
  have hll : (l.length : Int) ≤ 1048576 := by omega
  have hmin : min (s.size : Int) (D : Int) = (n : Int) := by omega
  have hns : (n : Int) ≤ (s.size : Int) := by omega
  have HT := Lib.hid (ext_takeD s n)
  have hesz : (s.extract 0 n).size = n := by rw [ByteArray.size_extract]; omega
  have hbd : Below w.heap.size w w.drew := ⟨rfl, rfl, rfl, Nat.le_refl _, fun _ _ => rfl⟩
  clear h hn hD
  have hconv : ((n : Int)).toNat = n := by omega
  go_enter Tryz.func18, Tryz.ntmps18
  go_wp2_with fail
  refine HM.out.mono ?_
  rintro e w1 ⟨rfl, hw1⟩
  obtain rfl := hw1.symm
  go_wp2_with fail
  go_quiet ((go_at_call 28; exact Calls.quiet_of_same (HHD.out _)))
  obtain ⟨wq, hwq⟩ : ∃ wq, w.drewN nq = wq := ⟨_, rfl⟩
  have hbq : Below w.heap.size w wq := by rw [← hwq]; exact ⟨rfl, rfl, rfl, Nat.le_refl _, fun _ _ => rfl⟩
  have hq := H.out.below hbq
  have HQ := Lib.hid hq
  have HBQ := Lib.hid hbq
  obtain ⟨a0, a1, a2, a3, a4, a5, a6, a9, a10, a11, a12⟩ := hq.obj.cells
  rw [hwq]
  clear hwq hbq hq c0 c1 c2 c3 c4 c5 c6 c9 c10 c11 c12
  by_cases h0 : 0 < n
  · have h0i : (n : Int) > 0 := by omega
    have hd : Below wq.heap.size wq wq.drew := ⟨rfl, rfl, rfl, Nat.le_refl _, fun _ _ => rfl⟩
    have HD := Lib.hid hd
    have HMO := Lib.hid (more_any fb rv l dr sp p (s.extract 0 n) wq.drew (HQ.out.below hd).rdr (by omega))
    rw [HT.out] at HMO
    obtain ⟨E, hE⟩ : ∃ E, s.extract 0 n = E := ⟨_, rfl⟩
    rw [hE] at HMO hesz
    clear hd
    go_wp2_with fail
    go_region_held3 (fun W => W.cell? ⟨x, 2, none⟩ = some (.pointer (some ⟨fb, 0, none⟩))) (go_keep)
      (first
        | (go_at_call 33; refine HMO.out.mono ?_; rintro e w2 ⟨rfl, v2, hr2, ht2, how2⟩; have H1 := Lib.hid hr2; have HT2 := Lib.hid ht2; have HO2 := Lib.hid how2; have hx2 : XpObj w2 x win lim fb ub pk sm false false false st := (HQ.out.below HD.out).obj.touch ht2 (fun e => (HQ.out.own x e).1 rfl); have f5 := hx2.frozen 5; have HX2 := Lib.hid hx2; obtain ⟨d0, d1, d2', d3, d4, d5, d6, d9, d10, d11, d12⟩ := hx2.cells; clear hr2 ht2 how2 hx2))
    obtain ⟨W3, hW3⟩ : ∃ W3, w2.setCell ⟨x, 5, none⟩ (.bool false) = W3 := ⟨_, rfl⟩
    have ht3 : Touch (· = x) w2 W3 := by rw [← hW3]; exact touch_cell (Touch.refl _ _)
    have hx3 : XpObj W3 x win lim fb ub pk sm false false false st := by rw [← hW3]; exact HX2.out.setSh false
    have hz2 : Xs B w2 x fb ub pk sm v2 (l ++ s.data.toList.take n) dr sp p win lim U due lev uen false false false st := ⟨HX2.out, H1.out, (HQ.out.below HD.out).us.touch HT2.out (fun e => (HQ.out.own ub e).2.1 rfl), HQ.out.ap, fun k hk => by
      rcases hk with rfl | hk
      · exact HQ.out.own _ (Or.inl rfl)
      · rcases HO2.out k hk with h1 | h1
        · exact HQ.out.own k (Or.inr h1)
        · have e1 := (HQ.out.below HD.out).obj.lt
          have e2 := (HQ.out.below HD.out).us.lt
          have e3 := HQ.out.base
          omega, HQ.out.base⟩
    have hB2 : B ≤ wq.drew.heap.size := Nat.le_trans hB (Nat.le_trans HBQ.out.size HD.out.size)
    have hbz : Below B w w2 := ((HBQ.out.mono hB).trans (HD.out.mono (Nat.le_trans hB HBQ.out.size))).trans (HT2.out.below hB2 (fun k hk => (HQ.out.own k hk).2.2))
    have HZ := Lib.hid (show XsP B w x fb ub pk sm (l ++ s.data.toList.take n) dr p win lim U due lev uen false false false st W3 from ⟨v2, sp, hsp, hz2.of_obj ht3 hx3, hbz.trans (hz2.below_obj (Nat.le_trans hB2 HT2.out.size) ht3)⟩)
    clear hz2 hx3 ht3 hbz hB2 a0 a1 a2 a3 a4 a5 a6 a9 a10 a11 a12
    go_wp2_with fail
    go_ret
    exact ⟨rfl, HZ.out⟩
  · obtain rfl : n = 0 := by omega
    have HZ := Lib.hid (show XsP B w x fb ub pk sm l dr p win lim U due lev uen false false false st wq from ⟨rv, sp, hsp, HQ.out, HBQ.out.mono hB⟩)
    have h0i : ¬ ((0 : Nat) : Int) > 0 := by omega
    go_wp2_with fail
    go_ret
    exact ⟨rfl, HZ.out⟩
set_option maxRecDepth 100000 in
set_option maxHeartbeats 4000000 in
theorem xptake_none (n : Int) (w : World) (h : XpObj w x win lim fb ub pk sm en sh dn st) : Calls Tryz.prog 20 #[.pointer (some ⟨x, 0, none⟩), .int .i64 n] w fun e w' => e = .returned (.string ⟨#[]⟩) ∧ w' = w := by
  have HW := Lib.hid (xpwaiting_any w h)
  have hm : min n 0 < 1 := by omega
  generalize hM : min n (0 : Int) = M at hm
  clear h
  go_enter Tryz.func20, Tryz.ntmps20
  go_wp2_with fail
  refine HW.out.mono ?_
  rintro e w1 ⟨rfl, hw1⟩
  obtain rfl := hw1.symm
  go_wp2_with fail
  go_ret
  exact ⟨rfl, rfl⟩
set_option maxHeartbeats 1000000 in
theorem xptake_nil (n : Int) (w : World) : Calls Tryz.prog 20 #[.pointer none, .int .i64 n] w fun e w' => e = .returned (.string ⟨#[]⟩) ∧ w' = w := by
  have HW := Lib.hid (xpwaiting_nil w)
  have hm : min n 0 < 1 := by omega
  generalize hM : min n (0 : Int) = M at hm
  go_enter Tryz.func20, Tryz.ntmps20
  go_wp2_with fail
  refine HW.out.mono ?_
  rintro e w1 ⟨rfl, hw1⟩
  obtain rfl := hw1.symm
  go_wp2_with fail
  go_ret
  exact ⟨rfl, rfl⟩
set_option maxHeartbeats 1000000 in
theorem usheld_any (b : Nat) (U d lv : Int) (ue : Bool) (w : World) (h : Us w b U d lv ue) : Calls Tryz.prog 29 #[.pointer (some ⟨b, 0, none⟩)] w fun e w' => e = .returned (.int .i64 0) ∧ w' = w := by
  obtain ⟨c0, c1, c2, c3, c7, c8, c9⟩ := h.cells
  clear h
  go_enter Tryz.func29, Tryz.ntmps29
  go_wp2_with fail
  refine (bheld20_nil _).mono ?_
  rintro e w1 ⟨rfl, hw1⟩
  obtain rfl := hw1.symm
  go_wp2_with fail
  go_ret
  exact ⟨rfl, rfl⟩
set_option maxRecDepth 100000 in
set_option maxHeartbeats 4000000 in
theorem xpheld_any (w : World) (h : Xs B w x fb ub pk sm rv l dr sp p win lim U due lev uen en sh dn st) (hl : l.length ≤ 1000000) : Calls Tryz.prog 12 #[.pointer (some ⟨x, 0, none⟩)] w fun e w' => e = .returned (.int .i64 (l.length : Int)) ∧ Below w.heap.size w w' := by
  have H := Lib.hid h
  obtain ⟨c0, c1, c2, c3, c4, c5, c6, c9, c10, c11, c12⟩ := h.obj.cells
  have HD : Hid (∀ m, Below w.heap.size w (w.drewN m)) := Lib.hid (fun m => ⟨rfl, rfl, rfl, Nat.le_refl _, fun _ _ => rfl⟩)
  have HHD := Lib.hid (fun m => (rheld_any fb rv l dr sp p (w.drewN m) (H.out.below (HD.out m)).rdr).mono (R' := fun e w' => e = .returned (.int .i64 (l.length : Int)) ∧ w' = w.drewN m) (by rintro e w' ⟨rfl, rfl⟩; exact ⟨rfl, rfl⟩))
  have HUH := Lib.hid (fun m => usheld_any ub U due lev uen (w.drewN m) (H.out.below (HD.out m)).us)
  have HIH := Lib.hid (fun m => unheld_nil (w.drewN m))
  have hl2 : (l.length : Int) ≤ 1000000 := by omega
  have hl0 : (0 : Int) ≤ (l.length : Int) := by omega
  clear h
  go_enter Tryz.func12, Tryz.ntmps12
  go_wp2_with fail
  go_quiet (first | (go_at_call 28; exact Calls.quiet_of_same (HHD.out _)) | (go_at_call 29; exact Calls.quiet_of_same (HUH.out _)) | (go_at_call 30; exact Calls.quiet_of_same (HIH.out _)))
  go_wp2_with fail
  go_ret
  exact ⟨by simp, HD.out _⟩
end
end Go.Proofs.YtnffkbpgcidpkaaGreatDoor
namespace Go.Proofs.YtnffkbpgcidpkaaGreatDoor
open Go.RowKit BitM
set_option linter.unusedVariables false
set_option linter.unusedSimpArgs false
theorem l14_size : (⟨l14.toArray⟩ : ByteArray).size = 14 := by decide +kernel
theorem l14_list : (⟨l14.toArray⟩ : ByteArray).data.toList = l14 := by decide +kernel
set_option maxRecDepth 100000 in
set_option maxHeartbeats 8000000 in
theorem none24_any (w : World) (hL : Lets w) : Calls Tryz.prog 9 #[] w fun e w' => e = .returned (.bool true) ∧ Below w.heap.size w w' := by
  have HN := Lib.hid (xpnew_any 24 64 9 w (⟨by decide, by decide, by decide, by decide, by decide, by decide⟩))
  have HL := Lib.hid hL
  have hlt := hL.lt
  have HRW := Lib.hid (fun W => rwith21_none W)
  obtain ⟨S, hS⟩ : ∃ S : ByteArray, (⟨l14.toArray⟩ : ByteArray) = S := ⟨_, rfl⟩
  have hSs : S.size = 14 := by rw [← hS]; exact l14_size
  have HSl := Lib.hid (show S.data.toList = l14 by rw [← hS])
  rw [hS] at HRW
  obtain ⟨B, hBw⟩ : ∃ B, w.heap.size = B := ⟨_, rfl⟩
  have HBW : Hid (w.heap.size = B) := Lib.hid hBw
  rw [hBw] at hlt
  unfold XnewP at HN
  rw [hBw] at HN ⊢
  clear hL hS hBw
  go_enter Tryz.func9, Tryz.ntmps9
  go_wp2_with fail
  refine HN.out.mono ?_
  rintro e w1 ⟨x, fb, ub, pk, sm, rv, rfl, h1, hb1⟩
  have HH1 := Lib.hid h1
  have HB1 := Lib.hid hb1
  clear h1 hb1 HN
  go_wp2_with fail
  refine (HRW.out _).mono ?_
  rintro e w2 ⟨rfl, hb2⟩
  have HB2 := Lib.hid (HB1.out.trans (hb2.mono (by have := HB1.out.size; have := HBW.out; omega)))
  have hs2 : B ≤ w2.heap.size := by have := HB2.out.size; have := HBW.out; omega
  have HF := Lib.hid (xpfeed_any S 14 64 w2 (HH1.out.below hb2) hs2 (Nat.le_refl _) (by decide) (by decide) (by decide) (by omega) (by omega))
  rw [HSl.out, show ([] : List UInt8) ++ l14.take 14 = l14 from rfl, show ((14 : Nat) : Int) = 14 from rfl] at HF
  clear hb2 HRW HH1
  go_wp2_with fail
  refine HF.out.mono ?_
  rintro e w3 ⟨rfl, rv3, sp3, hsp3, h3, hb3⟩
  have HB3 := Lib.hid (HB2.out.trans hb3)
  have hs3 : B ≤ w3.heap.size := by have := HB3.out.size; have := HBW.out; omega
  have HS := Lib.hid (xpstep_six w3 (HL.out.below (HB3.out.mono (Nat.le_refl _)) hlt) hlt hs3 (by decide) ⟨rv3, sp3, hsp3, h3⟩)
  clear hsp3 h3 hb3 HF
  go_wp2_with fail
  refine HS.out.mono ?_
  rintro e w4 ⟨rfl, h4, hb4⟩
  have HB4 := Lib.hid (HB3.out.trans hb4)
  have hs4 : B ≤ w4.heap.size := by have := HB4.out.size; have := HBW.out; omega
  have HK4 := Lib.hid h4
  have HE := Lib.hid (xpend_any w4 h4.obj (by decide))
  clear h4 hb4 HS
  go_wp2_with fail
  refine HE.out.mono ?_
  rintro e w5 ⟨rfl, h5, ht5⟩
  have HB5 := Lib.hid (HB4.out.trans (ht5.below hs4 (fun k hk => by have := HK4.out.base; have e : k = x := hk; omega)))
  have hs5 : B ≤ w5.heap.size := by have := HB5.out.size; have := HBW.out; omega
  have HS2 := Lib.hid (xpstep_end w5 hlt hs5 (by decide) (HK4.out.of_obj ht5 h5))
  clear h5 ht5 HE
  go_wp2_with fail
  refine HS2.out.mono ?_
  rintro e w6 ⟨rfl, h6, hb6⟩
  have HB6 := Lib.hid (HB5.out.trans hb6)
  have HD := Lib.hid (xpdone_any w6 h6.obj)
  have HER := Lib.hid (xperr_any w6 h6.obj)
  have HST := Lib.hid (xpsteps_any w6 h6.obj)
  have HTK := Lib.hid (xptake_none 9 w6 h6.obj)
  clear h6 hb6 HS2
  go_wp2_with fail
  refine HD.out.mono ?_
  rintro e w7 ⟨rfl, hw7⟩
  obtain rfl := hw7.symm
  go_wp2_with fail
  refine HER.out.mono ?_
  rintro e w8 ⟨rfl, hw8⟩
  obtain rfl := hw8.symm
  go_wp2_with fail
  refine HST.out.mono ?_
  rintro e w9 ⟨rfl, hw9⟩
  obtain rfl := hw9.symm
  go_wp2_with fail
  refine HTK.out.mono ?_
  rintro e wa ⟨rfl, hwa⟩
  obtain rfl := hwa.symm
  go_wp2_with fail
  go_ret
  exact ⟨rfl, HB6.out⟩
end Go.Proofs.YtnffkbpgcidpkaaGreatDoor
namespace Go.Proofs.YtnffkbpgcidpkaaGreatDoor
namespace Opn
open Go.ChangeShapes Go.WideShapes Go.ChangeAt Go.RowKit Go.Deep
section
variable {H : Type} {enc : TypeId × Value → H} {P : Program}
/-- THREE NUMBERS BY VALUE. -/
theorem open_three {W : World} {base : Nat} {t : TypeId} {v : Value} {d : DataW H} {p : List MemPlace} (hk : kinds P 2 t = some [.int .i64, .int .i64, .int .i64]) (hu : (match P.underlying t with | some (.struct _) | some (.array _ _) => true | _ => false) = true)
    (hv : Value.okWide P W .any base t v) (h : DataW.Trod enc P W 0 (fun _ => true) true t v d p) :
    ∃ K N V, v = .agg #[.int .i64 K, .int .i64 N, .int .i64 V] ∧ ((Lit.int .i64 K).wf = true ∧ (Lit.int .i64 N).wf = true ∧ (Lit.int .i64 V).wf = true) := by
  obtain ⟨cs, rfl, hall⟩ := open_flat 2 _ hk hu hv h
  clear h hv
  have e : cs = cs.toList.toArray := by simp
  rw [e]
  clear e
  revert hall
  generalize cs.toList = l
  intro hall
  have hl := hall.length
  obtain ⟨x0, x1, x2, rfl⟩ : ∃ x0 x1 x2, l = [x0, x1, x2] := by
    rcases l with _ | ⟨x0, _ | ⟨x1, _ | ⟨x2, _ | ⟨x3, r⟩⟩⟩⟩
    · cases hl
    · cases hl
    · cases hl
    · exact ⟨_, _, _, rfl⟩
    · simp at hl
  obtain ⟨⟨q0, e0, h0⟩, ⟨q1, e1, h1⟩, ⟨q2, e2, h2⟩, _⟩ := hall
  exact ⟨q0, q1, q2, by rw [e0, e1, e2], h0, h1, h2⟩
end
end Opn
open Go.RowKit BitM
set_option linter.unusedVariables false
set_option linter.unusedSimpArgs false
section
open Go.ChangeShapes Go.WideShapes
theorem upint_cell {H : Type} {enc : TypeId × Value → H} {P : Program} {w : World} {base : Nat} {sp : Nat → Bool} {held : Bool} {fuel : Nat} {t : TypeId} {k : IntKind} {cs : List Value} {y : DataW H × List MemPlace} {n : Int}
    (ht : P.underlying t = some (.int k)) (h : DataW.trod enc P w base sp held fuel t cs = some y) (hy : y.1 = .lit (.int k n)) : cs = [.int k n] := by
  obtain ⟨m, rfl, e, _⟩ := DataW.trod_int ht h
  rw [e] at hy
  simp at hy
  rw [hy]
/-- A table of whole numbers: its cells. -/
theorem uptable_cells {H : Type} {enc : TypeId × Value → H} {P : Program} {w : World} {base : Nat} {sp : Nat → Bool} {held : Bool} {fuel n : Nat} {t e : TypeId} {k : IntKind} {cs : List Value} {ps : List MemPlace} {ns : List Int}
    (ht : P.underlying t = some (.array n e)) (he : P.underlying e = some (.int k)) (hc : P.cellsOf e = 1)
    (h : DataW.trod enc P w base sp held fuel t cs = some (.agg (ns.map fun x => .lit (.int k x)), ps)) : ∀ (j : Nat) (x : Int), ns[j]? = some x → cs[j]? = some (.int k x) := by
  intro j x hj
  obtain ⟨xs, m, hx0, hx, hl, hn, hel⟩ := DataW.trod_array ht h
  have hjl := (List.getElem?_eq_some_iff.1 hj).1
  simp only [Prod.mk.injEq, DataW.agg.injEq] at hx
  have hlen : xs.length = ns.length := by
    have := congrArg List.length hx.1
    simpa using this.symm
  have h1 := hel j (by omega)
  have hxj : xs[j]? = some (xs[j]'(by omega)) := List.getElem?_eq_getElem _
  rw [hxj, hc] at h1
  have h2 := upint_cell (n := x) he h1 (by
    have := congrArg (fun l => l[j]?) hx.1
    simp only [List.getElem?_map, hj, hxj, Option.map_some, Option.some.injEq] at this
    exact this.symm)
  have h3 := congrArg (fun l => l[0]?) h2
  simpa using h3
theorem lets_of_laid {W : World} (h : laidMetH Tryz.prog [("baler/unstream.letters", Rows.laid_baler_unstream_letters)] W) : Lets W := by
  rw [MakeChecks.laidMetH_plain _ _ _ (by kernel_rfl)] at h
  obtain ⟨ps, ⟨g0, t0, cs0, f0, p0, q0, hg0, ht0, hv0, hd0, _, _⟩, _, _⟩ := h
  have e0 : some g0 = some 0 := hg0.symm.trans (by kernel_rfl)
  obtain rfl : g0 = 0 := Option.some.inj e0
  have e1 : some t0 = some 163 := ht0.symm.trans (by kernel_rfl)
  obtain rfl : t0 = 163 := Option.some.inj e1
  have hc := uptable_cells (ns := [66, 90, 104]) Tryz.underlying163 Tryz.underlying5 (by kernel_rfl) hd0
  have at_ : ∀ (j : Nat) (x : Int), ([66, 90, 104] : List Int)[j]? = some x → W.cell? ⟨0, j, none⟩ = some (.int .u8 x) := fun j x hj => by
    rw [World.var?_cell hg0 hv0 j, ← hc j x hj]
    simp
  exact ⟨at_ 0 66 rfl, at_ 1 90 rfl, at_ 2 104 rfl⟩
end
theorem up_wf {n : Int} (h : (Lit.int .i64 n).wf = true) : -9223372036854775808 ≤ n ∧ n ≤ 9223372036854775807 := by
  simpa [Lit.wf, IntKind.min, IntKind.max, IntKind.signed, IntKind.bits] using h
set_option maxRecDepth 100000 in
set_option maxHeartbeats 4000000 in
theorem unpressNil.walk (s : ByteArray) (n : Int) (w : World) (hL : Lets w) (hs : s.size ≤ maxLen) (hn : (Lit.int .i64 n).wf = true) :
    Calls Tryz.prog 5 #[.string s, .int .i64 n] w fun e w' => e = .returned (.bool true) ∧ Below w.heap.size w w' := by
  have HNO := Lib.hid (none24_any w hL)
  clear hL hs hn
  go_enter Tryz.func5, Tryz.ntmps5
  go_wp2_with fail
  refine (xpfeed_nil _ _).mono ?_
  rintro e w1 ⟨rfl, rfl⟩
  go_wp2_with fail
  refine (xpend_nil _).mono ?_
  rintro e w1 ⟨rfl, rfl⟩
  go_wp2_with fail
  refine (xpstep_nil _ _).mono ?_
  rintro e w1 ⟨rfl, rfl⟩
  go_wp2_with fail
  refine (xpstopped_nil _).mono ?_
  rintro e w1 ⟨rfl, rfl⟩
  go_wp2_with fail
  refine (xptake_nil _ _).mono ?_
  rintro e w1 ⟨rfl, rfl⟩
  go_wp2_with fail
  refine (xpwaiting_nil _).mono ?_
  rintro e w1 ⟨rfl, rfl⟩
  go_wp2_with fail
  refine (xpdone_nil _).mono ?_
  rintro e w1 ⟨rfl, rfl⟩
  go_wp2_with fail
  refine (xperr_nil _).mono ?_
  rintro e w1 ⟨rfl, rfl⟩
  go_wp2_with fail
  refine (xpsteps_nil _).mono ?_
  rintro e w1 ⟨rfl, rfl⟩
  go_wp2_with fail
  refine (xpheld_nil _).mono ?_
  rintro e w1 ⟨rfl, rfl⟩
  go_wp2_with fail
  refine HNO.out.mono ?_
  rintro e w1 ⟨rfl, hb1⟩
  have HB1 := Lib.hid hb1
  clear hb1
  go_wp2_with fail
  go_ret
  exact ⟨rfl, HB1.out⟩
end Go.Proofs.YtnffkbpgcidpkaaGreatDoor
namespace Go.Proofs.YtnffkbpgcidpkaaGreatDoor
open Go.RowKit BitM
set_option linter.unusedVariables false
set_option linter.unusedSimpArgs false
set_option maxHeartbeats 4000000 in
theorem xpnew_bad (U win lim : Int) (w : World) (hU : -9223372036854775808 ≤ U ∧ U ≤ 9223372036854775807) (h : ¬ xpMay U win lim) : Calls Tryz.prog 6 #[.int .i64 U, .int .i64 win, .int .i64 lim] w fun e w' => e = .returned (.tuple #[.pointer none, .int .i64 1]) ∧ Below w.heap.size w w' := by
  have HM := Lib.hid (xpmay_no U win lim w hU h)
  clear h
  go_enter Tryz.func6, Tryz.ntmps6
  go_wp2_with fail
  refine HM.out.mono ?_
  rintro e w1 ⟨rfl, hb1⟩
  have HB1 := Lib.hid hb1
  clear hb1
  go_wp2_with fail
  go_ret2
  exact ⟨rfl, HB1.out⟩
set_option maxHeartbeats 4000000 in
theorem rmay24_yes (U win lim : Int) (w : World) (h : xpMay U win lim) : Calls Tryz.prog 26 #[.int .i64 U, .int .i64 win, .int .i64 lim] w fun e w' => e = .returned (.bool true) ∧ w' = w := by
  obtain ⟨h1, h2, h3, h4, h5, h6⟩ := h
  have g3 : win ≥ 64 := h3
  have g5 : lim ≥ 1 := h5
  have HU := Lib.hid (runit21_any U w)
  rw [decide_eq_true (⟨h1, h2⟩ : 24 ≤ U ∧ U ≤ 100000)] at HU
  go_enter Tryz.func26, Tryz.ntmps26
  go_wp2_with fail
  refine HU.out.mono ?_
  rintro e w1 ⟨rfl, rfl⟩
  go_wp2_with fail
  go_ret
  exact ⟨rfl, rfl⟩
set_option maxHeartbeats 4000000 in
theorem rmay24_no (U win lim : Int) (w : World) (h : ¬ xpMay U win lim) : Calls Tryz.prog 26 #[.int .i64 U, .int .i64 win, .int .i64 lim] w fun e w' => e = .returned (.bool false) ∧ w' = w := by
  have hcase : ¬ (24 ≤ U ∧ U ≤ 100000) ∨ ((24 ≤ U ∧ U ≤ 100000) ∧ (¬ win ≥ 64 ∨ (win ≥ 64 ∧ ¬ win ≤ 1048576) ∨ (win ≥ 64 ∧ win ≤ 1048576 ∧ ¬ lim ≥ 1) ∨ (win ≥ 64 ∧ win ≤ 1048576 ∧ lim ≥ 1 ∧ ¬ lim ≤ 65536))) := by
    unfold xpMay at h
    omega
  clear h
  have HU := Lib.hid (runit21_any U w)
  rcases hcase with hb | ⟨hU2, hr⟩
  · rw [decide_eq_false hb] at HU
    clear hb
    go_enter Tryz.func26, Tryz.ntmps26
    go_wp2_with fail
    refine HU.out.mono ?_
    rintro e w1 ⟨rfl, rfl⟩
    go_wp2_with fail
    go_ret
    exact ⟨rfl, rfl⟩
  · rw [decide_eq_true hU2] at HU
    clear hU2
    rcases hr with k1 | ⟨k1, k2⟩ | ⟨k1, k2, k3⟩ | ⟨k1, k2, k3, k4⟩
    all_goals
      go_enter Tryz.func26, Tryz.ntmps26
      go_wp2_with fail
      refine HU.out.mono ?_
      rintro e w1 ⟨rfl, rfl⟩
      go_wp2_with fail
      go_ret
      first | exact ⟨rfl, rfl⟩ | (refine ⟨?_, rfl⟩; show Ending.returned (Value.bool (decide (lim ≤ 65536))) = _; rw [decide_eq_false (by omega)])
set_option maxHeartbeats 4000000 in
theorem rneed24_any (U win lim : Int) (w : World) (h : xpMay U win lim) : Calls Tryz.prog 10 #[.int .i64 U, .int .i64 win, .int .i64 lim] w fun e w' => e = .returned (.int .i64 (win + lim + 36 * U + 40960)) ∧ w' = w := by
  obtain ⟨h1, h2, h3, h4, h5, h6⟩ := h
  go_enter Tryz.func10, Tryz.ntmps10
  go_wp2_with fail
  go_ret
  exact ⟨rfl, rfl⟩
/-- whether a setup may be -/
theorem smay24_any (b : Bool) (U win lim : Int) (w : World) (h : ∀ W, Calls Tryz.prog 26 #[.int .i64 U, .int .i64 win, .int .i64 lim] W fun e w' => e = .returned (.bool b) ∧ w' = W) : Calls Tryz.prog 8 #[.agg #[.int .i64 U, .int .i64 win, .int .i64 lim]] w fun e w' => e = .returned (.bool b) ∧ Below w.heap.size w w' := by
  have H := Lib.hid h
  obtain ⟨w5, hw5⟩ : ∃ w5, w.alloc (.cells #[.int .i64 U, .int .i64 win, .int .i64 lim] 23) = w5 := ⟨_, rfl⟩
  have hx : w5.heap[w.heap.size]? = some (.cells #[.int .i64 U, .int .i64 win, .int .i64 lim] 23 (0, 0)) := by rw [← hw5]; exact heap_alloc_new _ _
  have HB := Lib.hid (show Below w.heap.size w w5 by rw [← hw5]; exact (Below.refl _ _).alloc (Nat.le_refl _) _)
  have c0 : w5.cell? ⟨w.heap.size, 0, none⟩ = some (.int .i64 U) := by rw [cell_of_row _ _ 0 _ _ _ hx]; rfl
  have c1 : w5.cell? ⟨w.heap.size, 1, none⟩ = some (.int .i64 win) := by rw [cell_of_row _ _ 1 _ _ _ hx]; rfl
  have c2 : w5.cell? ⟨w.heap.size, 2, none⟩ = some (.int .i64 lim) := by rw [cell_of_row _ _ 2 _ _ _ hx]; rfl
  clear h hx
  go_enter Tryz.func8, Tryz.ntmps8
  go_wp2_with fail
  refine (H.out _).mono ?_
  rintro e w1 ⟨rfl, rfl⟩
  go_wp2_with fail
  go_ret
  exact ⟨rfl, HB.out⟩
/-- A setup in a cell of its own. -/
def SetBox (w : World) (G : Nat) (U win lim : Int) : Prop := w.heap[G]? = some (.cells #[.int .i64 U, .int .i64 win, .int .i64 lim] 23 (0, 0))
theorem SetBox.cells {w : World} {G : Nat} {U win lim : Int} (h : SetBox w G U win lim) : w.cell? ⟨G, 0, none⟩ = some (.int .i64 U) ∧ w.cell? ⟨G, 1, none⟩ = some (.int .i64 win) ∧ w.cell? ⟨G, 2, none⟩ = some (.int .i64 lim) := by
  unfold SetBox at h
  refine ⟨?_, ?_, ?_⟩ <;> (rw [cell_of_row _ _ _ _ _ _ h]; rfl)
theorem SetBox.below {w w' : World} {G B : Nat} {U win lim : Int} (h : SetBox w G U win lim) (hb : Below B w w') (hG : G < B) : SetBox w' G U win lim := (hb.block G hG).trans h
set_option maxRecDepth 100000 in
set_option maxHeartbeats 8000000 in
theorem unpressNews.walk (U win lim : Int) (w : World) (hL : Lets w) (hw : (Lit.int .i64 U).wf = true ∧ (Lit.int .i64 win).wf = true ∧ (Lit.int .i64 lim).wf = true) :
    Calls Tryz.prog 3 #[.agg #[.int .i64 U, .int .i64 win, .int .i64 lim]] w fun e w' => e = .returned (.bool true) ∧ Below w.heap.size w w' := by
  have hU := up_wf hw.1
  have HL := Lib.hid hL
  have HLL := Lib.hid hL.lt
  obtain ⟨w5, hw5⟩ : ∃ w5, w.alloc (.cells #[.int .i64 U, .int .i64 win, .int .i64 lim] 23) = w5 := ⟨_, rfl⟩
  have hx : SetBox w5 w.heap.size U win lim := by rw [← hw5]; exact heap_alloc_new _ _
  have hb5 : Below w.heap.size w w5 := by rw [← hw5]; exact (Below.refl _ _).alloc (Nat.le_refl _) _
  have hz5 : w5.heap.size = w.heap.size + 1 := by rw [← hw5]; simp
  obtain ⟨G, hG⟩ : ∃ G, w.heap.size = G := ⟨_, rfl⟩
  rw [hG] at hx hb5 hz5 HLL ⊢
  have HB5 := Lib.hid hb5
  have HX5 := Lib.hid hx
  have HL5 := Lib.hid (HL.out.below hb5 HLL.out)
  have hG5 : G < w5.heap.size := by omega
  obtain ⟨c0, c1, c2⟩ := hx.cells
  clear hx hb5 hL hw
  by_cases hm : xpMay U win lim
  · have HN := Lib.hid (xpnew_any U win lim w5 hm)
    have HND := Lib.hid (fun W => xpneed_yes U win lim W hm)
    have HSM := Lib.hid (fun W => smay24_any true U win lim W (fun V => rmay24_yes U win lim V hm))
    have HRN := Lib.hid (fun W => rneed24_any U win lim W hm)
    have hw0 : 0 < win := by have := hm.2.2.1; omega
    have HUL := Lib.hid hm.1
    obtain ⟨h1, h2, h3, h4, h5, h6⟩ := hm
    obtain ⟨N, hN⟩ : ∃ N, win + lim + 36 * U + 40960 = N := ⟨_, rfl⟩
    rw [hN] at HND HRN
    clear hN h1 h2 h3 h4 h5 h6
    go_enter Tryz.func3, Tryz.ntmps3
    go_wp2_with fail
    refine HN.out.mono ?_
    rintro e w6 ⟨x, fb, ub, pk, sm, rv, rfl, k6, hb6⟩
    have HK6 := Lib.hid k6
    have HB6 := Lib.hid (HB5.out.trans (hb6.mono (by omega)))
    have HX6 := Lib.hid (HX5.out.below hb6 hG5)
    have HL6 := Lib.hid (HL5.out.below hb6 HL5.out.lt)
    obtain ⟨d0, d1, d2⟩ := HX6.out.cells
    have hs6 := hb6.size
    clear k6 hb6 c0 c1 c2 HN
    go_wp2_with fail
    refine (HND.out _).mono ?_
    rintro e w7 ⟨rfl, hb7⟩
    have HK7 := Lib.hid (HK6.out.below hb7)
    have HB7 := Lib.hid (HB6.out.trans (hb7.mono (by omega)))
    have HX7 := Lib.hid (HX6.out.below hb7 (by omega))
    have HL7 := Lib.hid (HL6.out.below hb7 HL6.out.lt)
    have hs7 := hb7.size
    obtain ⟨e0, e1, e2⟩ := HX7.out.cells
    clear hb7 d0 d1 d2
    go_wp2_with fail
    refine (HSM.out _).mono ?_
    rintro e w8 ⟨rfl, hb8⟩
    have HK8 := Lib.hid (HK7.out.below hb8)
    have HB8 := Lib.hid (HB7.out.trans (hb8.mono (by omega)))
    have HX8 := Lib.hid (HX7.out.below hb8 (by omega))
    have HL8 := Lib.hid (HL7.out.below hb8 HL7.out.lt)
    have hs8 := hb8.size
    obtain ⟨f0, f1, f2⟩ := HX8.out.cells
    have HWT := Lib.hid (xpwaiting_any w8 HK8.out.obj)
    have HHD := Lib.hid (xpheld_any w8 HK8.out (by simp))
    clear hb8 e0 e1 e2
    go_wp2_with fail
    refine (HRN.out _).mono ?_
    rintro e w9 ⟨rfl, hw9⟩
    obtain rfl := hw9.symm
    go_wp2_with fail
    refine HWT.out.mono ?_
    rintro e wa ⟨rfl, hwa⟩
    obtain rfl := hwa.symm
    go_wp2_with fail
    refine HHD.out.mono ?_
    rintro e wb ⟨rfl, hbb⟩
    have HKb := Lib.hid (HK8.out.below hbb)
    have HBb := Lib.hid (HB8.out.trans (hbb.mono (by omega)))
    have HLb := Lib.hid (HL8.out.below hbb HL8.out.lt)
    have hsb := hbb.size
    have HDN := Lib.hid (xpdone_any wb HKb.out.obj)
    have HER := Lib.hid (xperr_any wb HKb.out.obj)
    have HSTP := Lib.hid (xpstopped_any wb HKb.out.obj hw0)
    have HST := Lib.hid (xpstep_new wb (by have := HLL.out; omega) (by omega) hw0 HUL.out (Nat.le_refl _) HKb.out)
    clear hbb f0 f1 f2
    go_wp2_with fail
    refine HDN.out.mono ?_
    rintro e wa ⟨rfl, hwa⟩
    obtain rfl := hwa.symm
    go_wp2_with fail
    refine HER.out.mono ?_
    rintro e wa ⟨rfl, hwa⟩
    obtain rfl := hwa.symm
    go_wp2_with fail
    refine HSTP.out.mono ?_
    rintro e wa ⟨rfl, hwa⟩
    obtain rfl := hwa.symm
    go_wp2_with fail
    refine HST.out.mono ?_
    rintro e wc ⟨rfl, kc, hbc⟩
    have HBc := Lib.hid (HBb.out.trans (hbc.mono (by omega)))
    have HLc := Lib.hid (HLb.out.below hbc (by have := HLL.out; omega))
    have HSP := Lib.hid (xpstopped_any wc kc hw0)
    have HSN := Lib.hid (xpsteps_any wc kc)
    have HNO := Lib.hid (none24_any wc HLc.out)
    have hsc := hbc.size
    clear kc hbc
    go_wp2_with fail
    refine HSP.out.mono ?_
    rintro e wa ⟨rfl, hwa⟩
    obtain rfl := hwa.symm
    go_wp2_with fail
    refine HSN.out.mono ?_
    rintro e wa ⟨rfl, hwa⟩
    obtain rfl := hwa.symm
    go_wp2_with fail
    refine HNO.out.mono ?_
    rintro e wd ⟨rfl, hbd⟩
    have HBd := Lib.hid (HBc.out.trans (hbd.mono (by omega)))
    clear hbd
    go_wp2_with fail
    go_ret
    exact ⟨rfl, HBd.out⟩
  · have HN := Lib.hid (xpnew_bad U win lim w5 hU hm)
    have HND := Lib.hid (fun W => xpneed_no U win lim W hU hm)
    have HSM := Lib.hid (fun W => smay24_any false U win lim W (fun V => rmay24_no U win lim V hm))
    clear hm
    go_enter Tryz.func3, Tryz.ntmps3
    go_wp2_with fail
    refine HN.out.mono ?_
    rintro e w6 ⟨rfl, hb6⟩
    have HB6 := Lib.hid (HB5.out.trans (hb6.mono (by omega)))
    have HX6 := Lib.hid (HX5.out.below hb6 hG5)
    have HL6 := Lib.hid (HL5.out.below hb6 HL5.out.lt)
    obtain ⟨d0, d1, d2⟩ := HX6.out.cells
    have hs6 := hb6.size
    clear hb6 c0 c1 c2 HN
    go_wp2_with fail
    refine (HND.out _).mono ?_
    rintro e w7 ⟨rfl, hb7⟩
    have HB7 := Lib.hid (HB6.out.trans (hb7.mono (by omega)))
    have HX7 := Lib.hid (HX6.out.below hb7 (by omega))
    have HL7 := Lib.hid (HL6.out.below hb7 HL6.out.lt)
    have hs7 := hb7.size
    obtain ⟨e0, e1, e2⟩ := HX7.out.cells
    clear hb7 d0 d1 d2
    go_wp2_with fail
    refine (HSM.out _).mono ?_
    rintro e w8 ⟨rfl, hb8⟩
    have HB8 := Lib.hid (HB7.out.trans (hb8.mono (by omega)))
    have HL8 := Lib.hid (HL7.out.below hb8 HL7.out.lt)
    have HNO := Lib.hid (none24_any w8 HL8.out)
    have hs8 := hb8.size
    clear hb8 e0 e1 e2
    go_wp2_with fail
    refine HNO.out.mono ?_
    rintro e wd ⟨rfl, hbd⟩
    have HBd := Lib.hid (HB8.out.trans (hbd.mono (by omega)))
    clear hbd
    go_wp2_with fail
    go_ret
    exact ⟨rfl, HBd.out⟩
end Go.Proofs.YtnffkbpgcidpkaaGreatDoor
namespace Go.Proofs.YtnffkbpgcidpkaaGreatDoor
open Go.RowKit BitM
set_option linter.unusedVariables false
set_option linter.unusedSimpArgs false
theorem IsStrs.cell {w : World} {a : Option Addr} {len cap : Nat} {ss : List ByteArray} (h : IsStrs w a len cap ss) {i : Nat} (hi : i < len) : ∃ b off t, a = some ⟨b, off, none⟩ ∧ b < w.heap.size ∧ w.cell? ⟨b, off + i, none⟩ = some (.string t) ∧ t.size ≤ maxLen := by
  obtain ⟨hl, hm, hc, hs⟩ := h
  obtain ⟨b, off, rfl, hcl⟩ := hc i hi
  refine ⟨b, off, _, rfl, World.block_lt_of_cell? w _ hcl, hcl, hs _ ?_⟩
  rw [List.getD_eq_getElem?_getD, List.getElem?_eq_getElem (by omega)]
  exact List.getElem_mem _
theorem IsStrs.below {w w' : World} {a : Option Addr} {len cap : Nat} {ss : List ByteArray} (h : IsStrs w a len cap ss) {B : Nat} (hB : w.heap.size ≤ B) (hb : Below B w w') : IsStrs w' a len cap ss := by
  obtain ⟨hl, hm, hc, hs⟩ := h
  refine ⟨hl, hm, fun i hi => ?_, hs⟩
  obtain ⟨b, off, e, hcl⟩ := hc i hi
  exact ⟨b, off, e, (hb.cell (p := ⟨b, off + i, none⟩) (Nat.lt_of_lt_of_le (World.block_lt_of_cell? w _ hcl) hB)).trans hcl⟩
set_option maxRecDepth 100000 in
set_option maxHeartbeats 8000000 in
theorem unpressFeeds.walk (U win lim : Int) (a : Option Addr) (len cap : Nat) (ss : List ByteArray) (w : World) (hL : Lets w) (hw : (Lit.int .i64 U).wf = true ∧ (Lit.int .i64 win).wf = true ∧ (Lit.int .i64 lim).wf = true) (hl : IsStrs w a len cap ss) :
    Calls Tryz.prog 4 #[.agg #[.int .i64 U, .int .i64 win, .int .i64 lim], .slice a len cap] w fun e w' => e = .returned (.bool true) ∧ Below w.heap.size w w' := by
  have hU := up_wf hw.1
  have HL := Lib.hid hL
  have HLL := Lib.hid hL.lt
  obtain ⟨w5, hw5⟩ : ∃ w5, w.alloc (.cells #[.int .i64 U, .int .i64 win, .int .i64 lim] 23) = w5 := ⟨_, rfl⟩
  have hx : SetBox w5 w.heap.size U win lim := by rw [← hw5]; exact heap_alloc_new _ _
  have hb5 : Below w.heap.size w w5 := by rw [← hw5]; exact (Below.refl _ _).alloc (Nat.le_refl _) _
  have hz5 : w5.heap.size = w.heap.size + 1 := by rw [← hw5]; simp
  have HS := Lib.hid hl
  obtain ⟨G, hG⟩ : ∃ G, w.heap.size = G := ⟨_, rfl⟩
  rw [hG] at hx hb5 hz5 HLL ⊢
  have HB5 := Lib.hid hb5
  have HX5 := Lib.hid hx
  have HL5 := Lib.hid (HL.out.below hb5 HLL.out)
  have HS5 := Lib.hid (HS.out.below (by omega) hb5)
  have hG5 : G < w5.heap.size := by omega
  obtain ⟨c0, c1, c2⟩ := hx.cells
  have HBX := Lib.hid (fun W (hb : Below w5.heap.size w5 W) => HX5.out.below hb hG5)
  clear hx hb5 hL hw hl
  by_cases hm : xpMay U win lim
  · have HSM := Lib.hid (smay24_any true U win lim w5 (fun V => rmay24_yes U win lim V hm))
    by_cases hbad : 20 < len ∨ 300 < win
    · have hcs : (len : Int) > 20 ∨ (¬ (len : Int) > 20 ∧ win > 300) := by omega
      clear hbad hm
      rcases hcs with h20 | ⟨h20, h300⟩
      all_goals
        go_enter Tryz.func4, Tryz.ntmps4
        go_wp2_with fail
        refine HSM.out.mono ?_
        rintro e w6 ⟨rfl, hb6⟩
        have HB6 := Lib.hid (HB5.out.trans (hb6.mono (by omega)))
        have hx6 := HBX.out _ hb6
        obtain ⟨d0, d1, d2⟩ := hx6.cells
        have HNO := Lib.hid (none24_any w6 (HL5.out.below hb6 HL5.out.lt))
        have hs6 := hb6.size
        clear hb6 hx6 c0 c1 c2
        go_wp2_with fail
        refine HNO.out.mono ?_
        rintro e w7 ⟨rfl, hb7⟩
        have HB7 := Lib.hid (HB6.out.trans (hb7.mono (by omega)))
        clear hb7
        go_wp2_with fail
        go_ret
        exact ⟨rfl, HB7.out⟩
    · have hl20 : ¬ (len : Int) > 20 := by omega
      have hw300 : ¬ win > 300 := by omega
      clear hbad
      have HN := Lib.hid (fun W => xpnew_any U win lim W hm)
      have hw0 : 0 < win := by have := hm.2.2.1; omega
      have hw1 : win ≤ 1048576 := by omega
      clear hm
      go_enter Tryz.func4, Tryz.ntmps4
      go_wp2_with fail
      refine HSM.out.mono ?_
      rintro e w6 ⟨rfl, hb6⟩
      have HB6 := Lib.hid (HB5.out.trans (hb6.mono (by omega)))
      have HX6 := Lib.hid (HBX.out _ hb6)
      obtain ⟨d0, d1, d2⟩ := HX6.out.cells
      have HL6 := Lib.hid (HL5.out.below hb6 HL5.out.lt)
      have HS6 := Lib.hid (HS5.out.below (Nat.le_refl _) hb6)
      have hs6 := hb6.size
      clear hb6 c0 c1 c2
      go_wp2_with fail
      refine (HN.out _).mono ?_
      rintro e w7 ⟨x, fb, ub, pk, sm, rv, rfl, k7, hb7⟩
      have HB7 := Lib.hid (HB6.out.trans (hb7.mono (by omega)))
      have HX7 := Lib.hid (HX6.out.below hb7 (by omega))
      obtain ⟨e0, e1, e2⟩ := HX7.out.cells
      have HL7 := Lib.hid (HL6.out.below hb7 HL6.out.lt)
      have HS7 := Lib.hid (HS6.out.below (Nat.le_refl _) hb7)
      have hs7 := hb7.size
      obtain ⟨B, hBe⟩ : ∃ B, w6.heap.size = B := ⟨_, rfl⟩
      rw [hBe] at k7 hb7 hs7 hs6
      have HK7 := Lib.hid k7
      have hGB : G < B := by omega
      have hLB : 0 < B := by have := HLL.out; omega
      have HBE := Lib.hid hBe
      have HSB := Lib.hid (fun i (hi : i < len) => HS6.out.cell hi)
      have HB67 : Hid (Below w6.heap.size w6 w7) := Lib.hid (by rw [hBe]; exact hb7)
      clear k7 hb7 d0 d1 d2
      go_wp2_with fail
      go_loopw [7, 38] (fun vall vj wr => ∃ (j A : Nat) (l : List UInt8) (rv : Value) (sp : Nat), vj = .int .i64 (j : Int) ∧ j ≤ len ∧ vall = .int .i64 (A : Int) ∧ (A : Int) ≤ win ∧ l.length = A ∧ sp ≤ 0 ∧ Xs B wr x fb ub pk sm rv l 0 sp 0 win lim U 0 0 false false false false 0 ∧ Below B w7 wr) (fun _ vj _ => len - (intOf vj).toNat)
      case atStart => exact ⟨0, 0, [], rv, 0, rfl, by omega, rfl, by omega, rfl, Nat.le_refl _, HK7.out, Below.refl _ _⟩
      case round =>
        obtain ⟨j, A, l, rv2, sp2, rfl, hj, rfl, hA, hlA, hsp2, k8, hb8⟩ := hrel
        have HK8 := Lib.hid k8
        have HB8 := Lib.hid hb8
        have HX8 := Lib.hid (HX7.out.below hb8 hGB)
        have HL8 := Lib.hid (HL7.out.below hb8 hLB)
        have HS8 := Lib.hid (HS7.out.2.2.1)
        have hs8 := hb8.size
        obtain ⟨f0, f1, f2⟩ := HX8.out.cells
        clear k8 hb8 e0 e1 e2
        by_cases hlt : j < len
        · obtain ⟨b, off, t, ha, hbl, hcl6, htm⟩ := HSB.out j hlt
          subst ha
          have hbB : b < B := by have := HBE.out; omega
          have hcl7 : w7.cell? ⟨b, off + j, none⟩ = some (.string t) := (HB67.out.cell (p := ⟨b, off + j, none⟩) (by rw [HBE.out]; exact hbB)).trans hcl6
          have hcl := (HB8.out.cell (p := ⟨b, off + j, none⟩) hbB).trans hcl7
          have hji : (j : Int) < (len : Int) := by omega
          unfold maxLen at htm
          clear hcl6 hcl7
          by_cases ht : 200 < t.size
          · have hti : (t.size : Int) > 200 := by omega
            have HNO := Lib.hid (none24_any wr HL8.out)
            go_wp2_with fail
            refine HNO.out.mono ?_
            rintro e w9 ⟨rfl, hb9⟩
            have HB9 := Lib.hid ((HB7.out.trans (HB8.out.mono (by omega))).trans (hb9.mono (by omega)))
            clear hb9
            go_wp2_with fail
            go_ret
            exact ⟨rfl, HB9.out⟩
          · have hti : ¬ (t.size : Int) > 200 := by omega
            obtain ⟨D, hD⟩ : ∃ D : Nat, (D : Int) = win - (A : Int) := ⟨(win - (A : Int)).toNat, by omega⟩
            have hDw : win - (A : Int) = (D : Int) := hD.symm
            obtain ⟨n, hn⟩ : ∃ n, n = min t.size D := ⟨_, rfl⟩
            have hmin : min (t.size : Int) (D : Int) = (n : Int) := by omega
            have hnA : (A : Int) + (n : Int) ≤ win := by omega
            have hnt : n ≤ t.size := by omega
            have HF := Lib.hid (xpfeed_any t n D wr HK8.out (by omega) hsp2 hw0 hw1 (by rw [hlA]; exact hD) (by omega) hn)
            have hne : ((n : Int) != (n : Int)) = false := by simp
            have hne2 : (((A + n : Nat) : Int) != ((A + n : Nat) : Int)) = false := by simp
            clear hn hD
            go_wp2_with fail
            refine HF.out.mono ?_
            rintro e w9 ⟨rfl, rv3, sp3, hsp3, k9, hb9⟩
            have HK9 := Lib.hid k9
            have hl9 : (l ++ t.data.toList.take n).length = A + n := by
              rw [List.length_append, List.length_take, hlA]
              have : t.data.toList.length = t.size := rfl
              omega
            have HB9 := Lib.hid (HB8.out.trans hb9)
            have hs9 := hb9.size
            have HHD := Lib.hid (xpheld_any w9 HK9.out (by omega))
            rw [hl9] at HHD
            have HL9 := Lib.hid hl9
            obtain ⟨AN, hAN⟩ : ∃ AN, A + n = AN := ⟨_, rfl⟩
            have hANi : (A : Int) + (n : Int) = (AN : Int) := by omega
            have hANw : (AN : Int) ≤ win := by omega
            have hne3 : ((AN : Int) != (AN : Int)) = false := by simp
            rw [hAN] at HHD
            have HAN := Lib.hid hAN
            clear k9 hb9 hl9 hne2 hAN
            go_wp2_with fail
            refine HHD.out.mono ?_
            rintro e wa ⟨rfl, hba⟩
            have HKa := Lib.hid (HK9.out.below hba)
            have HBa := Lib.hid (HB9.out.trans (hba.mono (by omega)))
            have HSP := Lib.hid (xpstopped_any wa HKa.out.obj hw0)
            clear hba
            go_wp2_with fail
            refine HSP.out.mono ?_
            rintro e wb ⟨rfl, hwb⟩
            obtain rfl := hwb.symm
            go_wp2_with fail
            go_roundw
            case rel => exact ⟨j + 1, AN, _, rv3, sp3, by go_num, by omega, rfl, hANw, by rw [HL9.out, HAN.out], hsp3, HKa.out, HBa.out⟩
            case measure => simp [intOf]; omega
        · have hji : ¬ (j : Int) < (len : Int) := by omega
          have HE := Lib.hid (xpend_any wr HK8.out.obj hw0)
          go_wp2_with fail
          refine HE.out.mono ?_
          rintro e w9 ⟨rfl, k9, ht9⟩
          have HB9 := Lib.hid (HB8.out.trans (HK8.out.below_obj (by omega) ht9))
          have HFS := Lib.hid (xpfeed_shut ⟨#[97]⟩ w9 k9 hw0)
          have HES := Lib.hid (xpend_shut w9 k9 hw0)
          have HNO := Lib.hid (none24_any w9 (HL7.out.below HB9.out hLB))
          have hs9 := ht9.size
          clear k9 ht9
          go_wp2_with fail
          refine HFS.out.mono ?_
          rintro e wa ⟨rfl, hwa⟩
          obtain rfl := hwa.symm
          go_wp2_with fail
          refine HES.out.mono ?_
          rintro e wa ⟨rfl, hwa⟩
          obtain rfl := hwa.symm
          go_wp2_with fail
          refine HNO.out.mono ?_
          rintro e wa ⟨rfl, hba⟩
          have HBa := Lib.hid ((HB7.out.trans (HB9.out.mono (by omega))).trans (hba.mono (by omega)))
          clear hba
          go_wp2_with fail
          go_ret
          exact ⟨rfl, HBa.out⟩
  · have HSM := Lib.hid (smay24_any false U win lim w5 (fun V => rmay24_no U win lim V hm))
    clear hm
    go_enter Tryz.func4, Tryz.ntmps4
    go_wp2_with fail
    refine HSM.out.mono ?_
    rintro e w6 ⟨rfl, hb6⟩
    have HB6 := Lib.hid (HB5.out.trans (hb6.mono (by omega)))
    have HNO := Lib.hid (none24_any w6 (HL5.out.below hb6 HL5.out.lt))
    have hs6 := hb6.size
    clear hb6
    go_wp2_with fail
    refine HNO.out.mono ?_
    rintro e w7 ⟨rfl, hb7⟩
    have HB7 := Lib.hid (HB6.out.trans (hb7.mono (by omega)))
    clear hb7
    go_wp2_with fail
    go_ret
    exact ⟨rfl, HB7.out⟩
end Go.Proofs.YtnffkbpgcidpkaaGreatDoor

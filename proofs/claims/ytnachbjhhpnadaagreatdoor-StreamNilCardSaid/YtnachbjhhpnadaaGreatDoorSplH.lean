/-
  LAYER 19's CODE (package split): End.
-/
import Derived.Test.YtnachbjhhpnadaaGreatDoorSplG
namespace Go.Proofs.YtnachbjhhpnadaaGreatDoor
open Go.RowKit RleM SplM
set_option linter.unusedVariables false
set_option linter.unusedSimpArgs false
/-- What End leaves. -/
def EndP (B : Nat) (w w' : World) (t pb sb room : Nat) (bv v : Value) (bs : List (List Pc)) : Prop :=
  ∃ bv' tp', OwnBk w' w.heap.size v bs ∧ IsSp B w' t pb sb room 0 0 [] bv' tp' ∧ Touch (ftP t pb sb bv) w w' ∧ (∀ k, bv'.ownBlock = some k → bv.ownBlock = some k ∨ w.heap.size ≤ k) ∧ (∀ k, v.ownBlock = some k → ¬ ftP t pb sb bv' k ∧ tp' ≠ some k)
section
variable {B t pb sb room : Nat} {w w' : World} {c : UInt8} {n : Nat} {blk : List Pc} {bv : Value} {tp : Option Nat}
set_option maxRecDepth 100000 in
set_option maxHeartbeats 8000000 in
theorem send19_two (ps : List Pc) (w : World) (h : IsSp B w t pb sb room c n blk bv tp) (hT : Sizes w) (hg : 2 < B) (h0 : n = 0 → c = 0) (hn : n ≤ 254) (hps : packR c n = pack ps) (hd : dec (pack ps) = (flat ps, 0)) (h1 : (pack ps).length ≤ 1000) (h2 : (pack blk).length ≤ 1000000) (h3 : (flat blk).length ≤ 1000000000000) (h4 : (flat ps).length ≤ 1000) (hr : room ≤ 1000000)
    (hf : room < (pack blk).length + (pack ps).length) (hp : 0 < (pack ps).length) :
    Calls Tryz.prog 244 #[.pointer (some ⟨t, 0, none⟩)] w fun e w' => ∃ v, e = .returned v ∧ EndP B w w' t pb sb room bv v [blk, ps] := by
  have H := Lib.hid h
  have HT := Lib.hid hT
  have hpb : pb ≠ 2 := by have := h.base.2.1; omega
  have HEND := Lib.hid (pend_any pb c n w h.pk hT hpb h0 (by omega))
  rw [hps] at HEND
  have HTK := Lib.hid (fun W (k : IsSp B W t pb sb room 0 0 blk bv tp) => stake_out ps W k hd h1 h2 h3 h4 hr hf)
  obtain ⟨P, hP⟩ : ∃ P : ByteArray, (⟨(pack ps).toArray⟩ : ByteArray) = P := ⟨_, rfl⟩
  obtain ⟨s1, x1, m1, hA⟩ : ∃ (s1 : ByteArray) (x1 m1 : Int), blkV blk = #[.string s1, .int .u32 x1, .int .i64 m1] := ⟨_, _, _, rfl⟩
  have hAc : (#[.string s1, .int .u32 x1, .int .i64 m1] : Array Value).all (·.oneCell') = true := by simp [Value.oneCell']
  obtain ⟨s2, x2, m2, hA2⟩ : ∃ (s2 : ByteArray) (x2 m2 : Int), blkV ps = #[.string s2, .int .u32 x2, .int .i64 m2] := ⟨_, _, _, rfl⟩
  have HCUT := Lib.hid (fun W bv2 tp2 (k : IsSp B W t pb sb room 0 0 ps bv2 tp2) => scut_any W k)
  rw [hP] at HEND HTK
  rw [hA] at HTK
  rw [hA2] at HCUT
  have HA := Lib.hid (And.intro hA hA2)
  have hi := info_blk #[.string s1, .int .u32 x1, .int .i64 m1] rfl
  obtain ⟨_, c1, _, _, _⟩ := h.cells
  obtain ⟨L, hL⟩ : ∃ L, (pack ps).length = L := ⟨_, rfl⟩
  have HL := Lib.hid hL
  have hLp : 0 < L := by omega
  have hLi : (L : Int) > 0 := by omega
  clear h hT h0 hn hps hd h1 h2 h3 h4 hr hf hp hP hA hA2 hL hpb
  go_enter Tryz.func244, Tryz.ntmps244
  go_wp2_with fail
  refine HEND.out.mono ?_
  rintro e w1 ⟨rfl, hp1, ht1⟩
  have K1 := Lib.hid (H.out.packed ht1 hp1)
  have HT1 := Lib.hid (ht1.mono (T := ftP t pb sb bv) (fun i hi => Or.inr (Or.inl hi)))
  clear hp1 ht1 c1
  go_wp2_with fail
  refine (HTK.out _ K1.out).mono ?_
  rintro e w2 ⟨rfl, bv2, tp2, k2, t2, o2⟩
  have K2 := Lib.hid k2
  have HT2 := Lib.hid (HT1.out.trans t2 (fun i hi => Or.inl hi))
  have HO2 : Hid (∀ k, bv2.ownBlock = some k → bv.ownBlock = some k ∨ w.heap.size ≤ k) := Lib.hid (fun k hk => (o2 k hk).imp id (fun e => Nat.le_trans HT1.out.size e))
  clear k2 t2 o2
  have hs1 := HT1.out.size
  have hs2 := HT2.out.size
  have hz2 : (w2.alloc (.cells #[.string ⟨#[]⟩, .int .u32 0, .int .i64 0] 265)).heap[w2.heap.size]? = some (.cells blk0 265 (0, 0)) := heap_alloc_new _ _
  have hz3 : ((w2.alloc (.cells #[.string ⟨#[]⟩, .int .u32 0, .int .i64 0] 265)).setRow w2.heap.size #[.string s1, .int .u32 x1, .int .i64 m1]).heap[w2.heap.size]? = some (.cells #[.string s1, .int .u32 x1, .int .i64 m1] 265 (0, 0)) := setRow_heap _ _ _ _ _ _ hz2
  have hb3 : Below w2.heap.size w2 ((w2.alloc (.cells #[.string ⟨#[]⟩, .int .u32 0, .int .i64 0] 265)).setRow w2.heap.size #[.string s1, .int .u32 x1, .int .i64 m1]) := ((Below.refl _ _).alloc (Nat.le_refl _) _).trans ⟨rfl, rfl, rfl, by simp [World.setRow], fun j hj => setRow_other _ _ j _ (by omega)⟩
  have K3 := Lib.hid (K2.out.below hb3)
  have HB3 := Lib.hid hb3
  have hbz : w.heap.size ≤ ((w2.alloc (.cells #[.string ⟨#[]⟩, .int .u32 0, .int .i64 0] 265)).setRow w2.heap.size #[.string s1, .int .u32 x1, .int .i64 m1]).heap.size := Nat.le_trans hs2 hb3.size
  clear hb3
  go_wp2_with (first | (refine wpList_store_row rfl 265 _ _ rfl w2.heap.size #[.string s1, .int .u32 x1, .int .i64 m1] rfl rfl 265 blk0 hz2 hi rfl hAc ?_) | (refine wpList_load_row rfl 265 _ rfl w2.heap.size rfl 265 #[.string s1, .int .u32 x1, .int .i64 m1] (0, 0) _ hz3 Tryz.underlying265 rfl hi ?_) | (at_builtin; go_loud (refine push_bk _ rfl _ _ rfl w.heap.size (.slice none 0 0) [] blk _ HA.out.1.symm (OwnBk.nil _ _) rfl (w2.heap.size + 1) (by simp [World.setRow]) rfl (by simp) hbz ?_)))
  intro v5 w5 hO5 hT5 hv5
  have K5 := K3.out.other hT5 (fun x hx e => by cases e) (fun k hk e => by cases e)
  have HT5 : Hid (Touch (ftP t pb sb bv) w w5) := Lib.hid ((HT2.out.trans (Touch.ofBelow (S := fun _ => False) HB3.out) (fun i hi => absurd hi (fun h => h))).trans hT5 (fun i hi => by cases hi))
  have HV5 : Hid (∀ k, v5.ownBlock = some k → ¬ ftP t pb sb bv2 k ∧ tp2 ≠ some k ∧ w.heap.size ≤ k) := Lib.hid (fun k hk => by
    rcases hv5 k hk with e | e
    · cases e
    · have e2 : w2.heap.size + 1 ≤ k := by simpa [World.setRow] using e
      refine ⟨fun hx => by have := ftP_lt K2.out hx; omega, fun hx => by have := (K2.out.sum.lt.2 k hx).1; omega, by omega⟩)
  obtain ⟨oa, oc, rfl⟩ := hO5.slice
  obtain ⟨a2, cap2, hbv, _⟩ := K5.row.slice
  rw [HL.out] at hbv
  have HBV := Lib.hid hbv
  subst hbv
  have HO5 := Lib.hid hO5
  have HK5 := Lib.hid K5
  obtain ⟨_, _, d2, _, _⟩ := K5.cells
  clear K5 hO5 hT5 hv5 hz2 hz3 hbz
  go_wp2_with fail
  refine (HCUT.out _ _ _ HK5.out).mono ?_
  rintro e w6 ⟨rfl, k6, t6⟩
  have HO6 := Lib.hid (HO5.out.same (fun k hk => t6.block k (HO5.out.lt k hk).2 (HV5.out k hk).1))
  have HK6 := Lib.hid k6
  have HT6 : Hid (Touch (ftP t pb sb bv) w w6) := Lib.hid (HT5.out.trans t6 (fun i hi => by
    rcases hi with e | e | e | e
    · exact Or.inl (Or.inl e)
    · exact Or.inl (Or.inr (Or.inl e))
    · exact Or.inl (Or.inr (Or.inr (Or.inl e)))
    · rcases HO2.out i e with e | e
      · exact Or.inl (Or.inr (Or.inr (Or.inr e)))
      · exact Or.inr e))
  have hb6 : w.heap.size ≤ w6.heap.size := HT6.out.size
  clear k6 t6 d2
  simp only [List.nil_append, List.length_cons, List.length_nil] at *
  go_wp2_with (at_builtin; go_loud (refine push_bk w6 rfl _ _ rfl w.heap.size _ [blk] ps _ HA.out.2.symm HO6.out rfl w6.heap.size rfl rfl (by simp) hb6 ?_))
  intro v7 w7 hO7 hT7 hv7
  have K7 := HK6.out.other hT7 (fun x hx e => by
    rcases hx with h1 | h1 | h1 | h1
    · exact (HV5.out x e).1 (Or.inl h1)
    · exact (HV5.out x e).1 (Or.inr (Or.inl h1))
    · exact (HV5.out x e).1 (Or.inr (Or.inr (Or.inl h1)))
    · cases h1) (fun k hk e => (HV5.out k e).2.1 hk)
  have HR : Hid (EndP B w w7 t pb sb room bv v7 [blk, ps]) := Lib.hid (by
    refine ⟨.slice none 0 0, tp2, hO7, K7, HT6.out.trans hT7 (fun i hi => Or.inr (HV5.out i hi).2.2), fun k hk => (by cases hk), fun k hk => ?_⟩
    rcases hv7 k hk with e | e
    · refine ⟨fun hx => ?_, (HV5.out k e).2.1⟩
      rcases hx with h1 | h1 | h1 | h1
      · exact (HV5.out k e).1 (Or.inl h1)
      · exact (HV5.out k e).1 (Or.inr (Or.inl h1))
      · exact (HV5.out k e).1 (Or.inr (Or.inr (Or.inl h1)))
      · cases h1
    · refine ⟨fun hx => by have := ftP_lt HK6.out hx; omega, fun hx => by have := (HK6.out.sum.lt.2 k hx).1; omega⟩)
  obtain ⟨oa7, oc7, rfl⟩ := hO7.slice
  clear K7 hO7 hT7 hv7
  go_wp2_with fail
  go_ret
  exact ⟨_, rfl, HR.out⟩
set_option maxRecDepth 100000 in
set_option maxHeartbeats 8000000 in
theorem send19_one (ps : List Pc) (w : World) (h : IsSp B w t pb sb room c n blk bv tp) (hT : Sizes w) (hg : 2 < B) (h0 : n = 0 → c = 0) (hn : n ≤ 254) (hps : packR c n = pack ps) (hd : dec (pack ps) = (flat ps, 0)) (h1 : (pack ps).length ≤ 1000) (h2 : (pack blk).length ≤ 1000000) (h3 : (flat blk).length ≤ 1000000000000) (h4 : (flat ps).length ≤ 1000) (hr : room ≤ 1000000)
    (hf : (pack blk).length + (pack ps).length ≤ room) (hp : 0 < (pack (blk ++ ps)).length) :
    Calls Tryz.prog 244 #[.pointer (some ⟨t, 0, none⟩)] w fun e w' => ∃ v, e = .returned v ∧ EndP B w w' t pb sb room bv v [blk ++ ps] := by
  have H := Lib.hid h
  have hpb : pb ≠ 2 := by have := h.base.2.1; omega
  have HEND := Lib.hid (pend_any pb c n w h.pk hT hpb h0 (by omega))
  rw [hps] at HEND
  have HTK := Lib.hid (fun W (k : IsSp B W t pb sb room 0 0 blk bv tp) => stake_in ps W k hd h1 h2 h3 h4 hr hf)
  rw [show blk0 = #[.string ⟨#[]⟩, .int .u32 0, .int .i64 0] from rfl] at HTK
  obtain ⟨P, hP⟩ : ∃ P : ByteArray, (⟨(pack ps).toArray⟩ : ByteArray) = P := ⟨_, rfl⟩
  obtain ⟨N, hN⟩ : ∃ N, blk ++ ps = N := ⟨_, rfl⟩
  obtain ⟨s2, x2, m2, hA2⟩ : ∃ (s2 : ByteArray) (x2 m2 : Int), blkV N = #[.string s2, .int .u32 x2, .int .i64 m2] := ⟨_, _, _, rfl⟩
  have HCUT := Lib.hid (fun W bv2 tp2 (k : IsSp B W t pb sb room 0 0 N bv2 tp2) => scut_any W k)
  rw [hA2] at HCUT
  rw [hN] at HTK hp ⊢
  have HA := Lib.hid hA2
  rw [hP] at HEND HTK
  obtain ⟨_, c1, _, _, _⟩ := h.cells
  obtain ⟨L, hL⟩ : ∃ L, (pack N).length = L := ⟨_, rfl⟩
  have HL := Lib.hid hL
  have hLp : 0 < L := by omega
  have hLi : (L : Int) > 0 := by omega
  clear h hT h0 hn hps hd h1 h2 h3 h4 hr hf hp hP hN hA2 hL hpb
  go_enter Tryz.func244, Tryz.ntmps244
  go_wp2_with fail
  refine HEND.out.mono ?_
  rintro e w1 ⟨rfl, hp1, ht1⟩
  have K1 := Lib.hid (H.out.packed ht1 hp1)
  have HT1 := Lib.hid (ht1.mono (T := ftP t pb sb bv) (fun i hi => Or.inr (Or.inl hi)))
  clear hp1 ht1 c1
  go_wp2_with fail
  refine (HTK.out _ K1.out).mono ?_
  rintro e w2 ⟨rfl, bv2, tp2, k2, t2, o2⟩
  have HT2 := Lib.hid (HT1.out.trans t2 (fun i hi => Or.inl hi))
  have HO2 : Hid (∀ k, bv2.ownBlock = some k → bv.ownBlock = some k ∨ w.heap.size ≤ k) := Lib.hid (fun k hk => (o2 k hk).imp id (fun e => Nat.le_trans HT1.out.size e))
  obtain ⟨a2, cap2, hbv, _⟩ := k2.row.slice
  rw [HL.out] at hbv
  subst hbv
  have K2 := Lib.hid k2
  have hb3 : Below w2.heap.size w2 (w2.alloc (.cells #[.string ⟨#[]⟩, .int .u32 0, .int .i64 0] 265)) := (Below.refl _ _).alloc (Nat.le_refl _) _
  have K3 := Lib.hid (k2.below hb3)
  have HB3 := Lib.hid hb3
  obtain ⟨_, _, d2, _, _⟩ := K3.out.cells
  clear k2 t2 o2 hb3
  go_wp2_with fail
  have HT3 := Lib.hid (HT2.out.trans (Touch.ofBelow (S := fun _ => False) HB3.out) (fun i hi => absurd hi (fun h => h)))
  refine (HCUT.out _ _ _ K3.out).mono ?_
  rintro e w6 ⟨rfl, k6, t6⟩
  have HK6 := Lib.hid k6
  have HT6 : Hid (Touch (ftP t pb sb bv) w w6) := Lib.hid (HT3.out.trans t6 (fun i hi => by
    rcases hi with e | e | e | e
    · exact Or.inl (Or.inl e)
    · exact Or.inl (Or.inr (Or.inl e))
    · exact Or.inl (Or.inr (Or.inr (Or.inl e)))
    · rcases HO2.out i e with e | e
      · exact Or.inl (Or.inr (Or.inr (Or.inr e)))
      · exact Or.inr e))
  have hb6 : w.heap.size ≤ w6.heap.size := HT6.out.size
  clear k6 t6 d2
  go_wp2_with (at_builtin; go_loud (refine push_bk w6 rfl _ _ rfl w.heap.size (.slice none 0 0) [] N _ HA.out.symm (OwnBk.nil _ _) rfl w6.heap.size rfl rfl (by simp) hb6 ?_))
  intro v7 w7 hO7 hT7 hv7
  have K7 := HK6.out.other hT7 (fun x hx e => by cases e) (fun k hk e => by cases e)
  have HR : Hid (EndP B w w7 t pb sb room bv v7 [N]) := Lib.hid (by
    refine ⟨.slice none 0 0, tp2, hO7, K7, HT6.out.trans hT7 (fun i hi => by cases hi), fun k hk => (by cases hk), fun k hk => ?_⟩
    rcases hv7 k hk with e | e
    · cases e
    · refine ⟨fun hx => by have := ftP_lt HK6.out hx; omega, fun hx => by have := (HK6.out.sum.lt.2 k hx).1; omega⟩)
  obtain ⟨oa7, oc7, rfl⟩ := hO7.slice
  clear K7 hO7 hT7 hv7
  go_wp2_with fail
  go_ret
  exact ⟨_, rfl, HR.out⟩
set_option maxRecDepth 100000 in
set_option maxHeartbeats 8000000 in
theorem send19_none (ps : List Pc) (w : World) (h : IsSp B w t pb sb room c n blk bv tp) (hT : Sizes w) (hg : 2 < B) (h0 : n = 0 → c = 0) (hn : n ≤ 254) (hps : packR c n = pack ps) (hd : dec (pack ps) = (flat ps, 0)) (h1 : (pack ps).length ≤ 1000) (h2 : (pack blk).length ≤ 1000000) (h3 : (flat blk).length ≤ 1000000000000) (h4 : (flat ps).length ≤ 1000) (hr : room ≤ 1000000)
    (hf : (pack blk).length + (pack ps).length ≤ room) (hp : blk ++ ps = []) :
    Calls Tryz.prog 244 #[.pointer (some ⟨t, 0, none⟩)] w fun e w' => ∃ v, e = .returned v ∧ EndP B w w' t pb sb room bv v [] := by
  have H := Lib.hid h
  have hpb : pb ≠ 2 := by have := h.base.2.1; omega
  have HEND := Lib.hid (pend_any pb c n w h.pk hT hpb h0 (by omega))
  rw [hps] at HEND
  have HTK := Lib.hid (fun W (k : IsSp B W t pb sb room 0 0 blk bv tp) => stake_in ps W k hd h1 h2 h3 h4 hr hf)
  rw [show blk0 = #[.string ⟨#[]⟩, .int .u32 0, .int .i64 0] from rfl] at HTK
  obtain ⟨P, hP⟩ : ∃ P : ByteArray, (⟨(pack ps).toArray⟩ : ByteArray) = P := ⟨_, rfl⟩
  rw [hp] at HTK
  rw [hP] at HEND HTK
  obtain ⟨_, c1, _, _, _⟩ := h.cells
  clear h hT h0 hn hps hd h1 h2 h3 h4 hr hf hp hP hpb
  go_enter Tryz.func244, Tryz.ntmps244
  go_wp2_with fail
  refine HEND.out.mono ?_
  rintro e w1 ⟨rfl, hp1, ht1⟩
  have K1 := Lib.hid (H.out.packed ht1 hp1)
  have HT1 := Lib.hid (ht1.mono (T := ftP t pb sb bv) (fun i hi => Or.inr (Or.inl hi)))
  clear hp1 ht1 c1
  go_wp2_with fail
  refine (HTK.out _ K1.out).mono ?_
  rintro e w2 ⟨rfl, bv2, tp2, k2, t2, o2⟩
  have HT2 := Lib.hid (HT1.out.trans t2 (fun i hi => Or.inl hi))
  have HO2 : Hid (∀ k, bv2.ownBlock = some k → bv.ownBlock = some k ∨ w.heap.size ≤ k) := Lib.hid (fun k hk => (o2 k hk).imp id (fun e => Nat.le_trans HT1.out.size e))
  obtain ⟨a2, cap2, hbv, _⟩ := k2.row.slice
  rw [show (pack ([] : List Pc)).length = 0 from rfl] at hbv
  subst hbv
  have K2 := Lib.hid k2
  have hb3 : Below w2.heap.size w2 (w2.alloc (.cells #[.string ⟨#[]⟩, .int .u32 0, .int .i64 0] 265)) := (Below.refl _ _).alloc (Nat.le_refl _) _
  have K3 := Lib.hid (k2.below hb3)
  have HB3 := Lib.hid hb3
  obtain ⟨_, _, d2, _, _⟩ := K3.out.cells
  clear k2 t2 o2 hb3
  go_wp2_with fail
  go_ret
  refine ⟨_, rfl, .slice a2 0 cap2, tp2, OwnBk.nil _ _, K3.out, HT2.out.trans (Touch.ofBelow (S := fun _ => False) HB3.out) (fun i hi => absurd hi (fun h => h)), HO2.out, fun k hk => (by cases hk)⟩
end
end Go.Proofs.YtnachbjhhpnadaaGreatDoor

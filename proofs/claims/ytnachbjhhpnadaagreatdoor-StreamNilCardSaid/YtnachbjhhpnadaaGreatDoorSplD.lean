/-
  LAYER 19's CODE (package split): take, New, Held.
-/
import Derived.Test.YtnachbjhhpnadaaGreatDoorSplC
namespace Go.Proofs.YtnachbjhhpnadaaGreatDoor
open Go.RowKit RleM SplM
set_option linter.unusedVariables false
set_option linter.unusedSimpArgs false
theorem results_cell_slotP {P : Program} {fn : Func} {p q : Tmp} {ty : TypeId} (h : fn.results = #[.cell p ty, .tmp q]) (tmps : Array Value) (w : World) (g : Nat) (cs : Array Value) (t : TypeId) (d : TypeDesc) (e : Value)
    (hp : tmps.getD p undef = .pointer (some ⟨g, 0, none⟩)) (hq : tmps.getD q undef = e) (hg : w.heap[g]? = some (.cells cs t (0, 0))) (hu : P.underlying ty = some d) (hd : (match d with | .struct _ | .array _ _ => true | _ => false) = true) (hi : (P.info? ty).map (·.size) = some cs.size) :
    (results fn tmps).run P w = .ok (.tuple #[.agg cs, e]) w := by
  have hp' : tmps[p]?.getD undef = .pointer (some ⟨g, 0, none⟩) := by simpa using hp
  have hq' : tmps[q]?.getD undef = e := by simpa using hq
  simp [results, h, hp', hq', asAddr, run_loadVar_row w g t ty cs (0, 0) d hg hu hd hi]
theorem blk0_one : blk0.all (·.oneCell') = true := by simp [blk0, Value.oneCell']
theorem blkV_one (blk : List Pc) : (blkV blk).all (·.oneCell') = true := by simp [blkV, Value.oneCell']
section
variable {B t pb sb room : Nat} {w w' : World} {c : UInt8} {n : Nat} {blk : List Pc} {bv : Value} {tp : Option Nat}
/-- What take leaves. -/
def TakP (B : Nat) (w w' : World) (t pb sb room : Nat) (c : UInt8) (n : Nat) (blk : List Pc) (bv : Value) : Prop :=
  ∃ bv' tp', IsSp B w' t pb sb room c n blk bv' tp' ∧ Touch (ftP t pb sb bv) w w' ∧ (∀ k, bv'.ownBlock = some k → bv.ownBlock = some k ∨ w.heap.size ≤ k)
set_option maxRecDepth 100000 in
set_option maxHeartbeats 4000000 in
/-- The piece goes into the block that was begun. -/
theorem stake_in (ps : List Pc) (w : World) (h : IsSp B w t pb sb room c n blk bv tp) (hd : dec (pack ps) = (flat ps, 0)) (h1 : (pack ps).length ≤ 1000) (h2 : (pack blk).length ≤ 1000000) (h3 : (flat blk).length ≤ 1000000000000) (h4 : (flat ps).length ≤ 1000) (hr : room ≤ 1000000) (hf : (pack blk).length + (pack ps).length ≤ room) :
    Calls Tryz.prog 266 #[.pointer (some ⟨t, 0, none⟩), .string ⟨(pack ps).toArray⟩] w fun e w' => e = .returned (.tuple #[.agg blk0, .bool false]) ∧ TakP B w w' t pb sb room c n (blk ++ ps) bv := by
  have H := Lib.hid h
  obtain ⟨a, cap, hv, _⟩ := h.row.slice
  have hPs : (⟨(pack ps).toArray⟩ : ByteArray).size = (pack ps).length := text_size _
  have HADD := Lib.hid (fun W (k : IsSp B W t pb sb room c n blk bv tp) => sadd_any ps W k hd h1 h2 h3 h4)
  obtain ⟨BZ, hBZ⟩ : ∃ BZ, blk0 = BZ := ⟨_, rfl⟩
  have hBZ3 : BZ.size = 3 := by rw [← hBZ]; rfl
  have hBZc : BZ.all (·.oneCell') = true := by rw [← hBZ]; exact blk0_one
  have HBZ := Lib.hid hBZ
  have hi := info_blk BZ hBZ3
  have hold : BZ.size = BZ.size := rfl
  obtain ⟨L, hL⟩ : ∃ L, (pack blk).length = L := ⟨_, rfl⟩
  obtain ⟨M, hM⟩ : ∃ M, (pack ps).length = M := ⟨_, rfl⟩
  obtain ⟨P, hP⟩ : ∃ P : ByteArray, (⟨(pack ps).toArray⟩ : ByteArray) = P := ⟨_, rfl⟩
  rw [hP] at HADD hPs ⊢
  rw [hL] at hv hf
  rw [hM] at hf hPs
  obtain ⟨S, hS⟩ : ∃ S, L + M = S := ⟨_, rfl⟩
  have hPi : (P.size : Int) = (M : Int) := by omega
  have hSi : (L : Int) + (M : Int) = (S : Int) := by omega
  have hSw : IntKind.i64.wrap (S : Int) = (S : Int) := IntWalk.i64_in _ (by omega)
  have hfi : ¬ (S : Int) > (room : Int) := by omega
  have hfd : decide ((room : Int) < (S : Int)) = false := by rw [decide_eq_false_iff_not]; omega
  have HV := Lib.hid hv
  subst hv
  clear h hd hP hL hM hS hPs hf h1 h2 h3 h4 hr
  go_enter Tryz.func266, Tryz.ntmps266
  go_wp2_with fail
  obtain ⟨wq, hwq⟩ : ∃ wq, (w.alloc (.cells #[.string ⟨#[]⟩, .int .u32 0, .int .i64 0] 265)).alloc (.cells #[.string ⟨#[]⟩, .int .u32 0, .int .i64 0] 265) = wq := ⟨_, rfl⟩
  have hz1 : (w.alloc (.cells blk0 265)).heap.size = w.heap.size + 1 := by show (w.heap.push _).size = _; simp
  have hbq : Below w.heap.size w wq := by rw [← hwq]; exact ((Below.refl _ _).alloc (Nat.le_refl _) _).alloc (by show w.heap.size ≤ (w.heap.push _).size; simp) _
  have hr0 : wq.heap[w.heap.size]? = some (.cells blk0 265 (0, 0)) := by rw [← hwq]; exact (Below.heap_alloc (w.alloc (.cells blk0 265)) _ _ (by omega)).trans (heap_alloc_new w _)
  have hr1 : wq.heap[w.heap.size + 1]? = some (.cells blk0 265 (0, 0)) := by
    have := heap_alloc_new (w.alloc (.cells blk0 265)) (.cells blk0 265)
    rw [hz1] at this
    rw [← hwq]
    exact this
  rw [hBZ] at hr0 hr1
  clear hBZ
  have K := Lib.hid (H.out.below hbq)
  have HBQ := Lib.hid hbq
  have HR0 := Lib.hid hr0
  have HR1 := Lib.hid hr1
  rw [hwq]
  obtain ⟨d0, _, d2, _, _⟩ := K.out.cells
  clear hz1 hbq hr0 hr1 hwq
  go_quiet (fail)
  go_wp2_with fail
  have HQ : Hid (Below wq.heap.size wq (wq.drewN nq)) := Lib.hid ⟨rfl, rfl, rfl, Nat.le_refl _, fun _ _ => rfl⟩
  have KQ := Lib.hid (K.out.below HQ.out)
  have HTQ : Hid (Touch (ftP t pb sb (.slice a L cap)) w (wq.drewN nq)) := Lib.hid (Touch.ofBelow (S := ftP t pb sb (.slice a L cap)) (HBQ.out.trans (HQ.out.mono HBQ.out.size)))
  have HZ0 : Hid ((wq.drewN nq).heap[w.heap.size]? = some (.cells BZ 265 (0, 0))) := Lib.hid HR0.out
  have HZ1 : Hid ((wq.drewN nq).heap[w.heap.size + 1]? = some (.cells BZ 265 (0, 0))) := Lib.hid HR1.out
  clear d0 d2 HQ
  generalize wq.drewN nq = wz at *
  refine (HADD.out _ KQ.out).mono ?_
  rintro e w4 ⟨rfl, bv', tp', k4, t4, o4⟩
  have x0 := (t4.block _ (Array.getElem?_eq_some_iff.1 HZ0.out).1 (fun e => by have := ftP_lt H.out e; omega)).trans HZ0.out
  have x1 := (t4.block _ (Array.getElem?_eq_some_iff.1 HZ1.out).1 (fun e => by have := ftP_lt H.out e; omega)).trans HZ1.out
  have HO4 : Hid (∀ k, bv'.ownBlock = some k → (Value.slice a L cap).ownBlock = some k ∨ w.heap.size < k) := Lib.hid (fun k hk => by
    rcases o4 k hk with e | e
    · exact Or.inl e
    · have := (Array.getElem?_eq_some_iff.1 HZ1.out).1
      exact Or.inr (by omega))
  have HT4 : Hid (Touch (ftP t pb sb (.slice a L cap)) w w4) := Lib.hid (HTQ.out.trans t4 (fun i hi => Or.inl hi))
  have HTAB : Hid (∀ k, tp' = some k → k ≠ w.heap.size) := Lib.hid (fun k hk e => by
    have hT : IsTable w4 k := by
      have := k4.sum
      rw [hk] at this
      exact this.2.1
    have hc := hT 0 (by omega)
    rw [e, cell_of_row _ _ _ _ _ _ x0] at hc
    rw [← HBZ.out] at hc; simp [blk0] at hc)
  have HR : Hid (TakP B w (w4.setRow w.heap.size BZ) t pb sb room c n (blk ++ ps) (.slice a L cap)) := Lib.hid (by
    have t5 : Touch (· = w.heap.size) w4 (w4.setRow w.heap.size BZ) := ⟨rfl, rfl, rfl, by simp [World.setRow], fun j _ hj => setRow_other w4 _ j _ hj⟩
    refine ⟨bv', tp', k4.other t5 (fun x hx e => ?_) (fun k hk e => HTAB.out k hk e), HT4.out.trans t5 (fun i hi => Or.inr (by rw [hi]; exact Nat.le_refl _)), (fun k hk => (HO4.out k hk).imp id Nat.le_of_lt)⟩
    subst e
    rcases hx with e | e | e | e
    · have := H.out.lt; omega
    · have := H.out.pk.lt; omega
    · have := H.out.sum.lt.1; omega
    · exact (fun e => by rcases HO4.out _ e with e | e; (have := H.out.row.lt _ e; omega); omega) e)
  clear k4 t4 o4 HT4 HO4 HTAB
  go_wp2_with (first | (refine wpList_load_row rfl 265 _ rfl (w.heap.size + 1) rfl 265 BZ (0, 0) _ x1 Tryz.underlying265 rfl hi ?_) | (refine wpList_store_row rfl 265 _ _ rfl w.heap.size BZ rfl rfl 265 BZ x0 hi rfl hBZc ?_))
  refine bodyPost_ret (v := .tuple #[.agg BZ, .bool false]) (results_cell_slotP rfl _ _ w.heap.size BZ 265 _ _ rfl rfl (setRow_heap w4 _ BZ BZ 265 _ x0) Tryz.underlying265 rfl hi) rfl ⟨by rw [HBZ.out], HR.out⟩
set_option maxRecDepth 100000 in
set_option maxHeartbeats 4000000 in
/-- The piece begins a further block. -/
theorem stake_out (ps : List Pc) (w : World) (h : IsSp B w t pb sb room c n blk bv tp) (hd : dec (pack ps) = (flat ps, 0)) (h1 : (pack ps).length ≤ 1000) (h2 : (pack blk).length ≤ 1000000) (h3 : (flat blk).length ≤ 1000000000000) (h4 : (flat ps).length ≤ 1000) (hr : room ≤ 1000000) (hf : room < (pack blk).length + (pack ps).length) :
    Calls Tryz.prog 266 #[.pointer (some ⟨t, 0, none⟩), .string ⟨(pack ps).toArray⟩] w fun e w' => e = .returned (.tuple #[.agg (blkV blk), .bool true]) ∧ TakP B w w' t pb sb room c n ps bv := by
  have H := Lib.hid h
  obtain ⟨a, cap, hv, _⟩ := h.row.slice
  have hPs : (⟨(pack ps).toArray⟩ : ByteArray).size = (pack ps).length := text_size _
  have HADD := Lib.hid (fun W (k : IsSp B W t pb sb room c n [] (.slice none 0 0) tp) => sadd_any ps W k hd h1 (by simp [pack]) (by simp [flat]) h4)
  have HCUT := Lib.hid (fun W (k : IsSp B W t pb sb room c n blk bv tp) => scut_any W k)
  obtain ⟨BV, hBV⟩ : ∃ BV, blkV blk = BV := ⟨_, rfl⟩
  have hBV3 : BV.size = 3 := by rw [← hBV]; rfl
  have hBVc : BV.all (·.oneCell') = true := by rw [← hBV]; exact blkV_one blk
  rw [hBV] at HCUT ⊢
  have hi := info_blk BV hBV3
  have hold : blk0.size = BV.size := by rw [hBV3]; rfl
  obtain ⟨L, hL⟩ : ∃ L, (pack blk).length = L := ⟨_, rfl⟩
  obtain ⟨M, hM⟩ : ∃ M, (pack ps).length = M := ⟨_, rfl⟩
  obtain ⟨P, hP⟩ : ∃ P : ByteArray, (⟨(pack ps).toArray⟩ : ByteArray) = P := ⟨_, rfl⟩
  rw [hP] at HADD hPs ⊢
  rw [hL] at hv hf
  rw [hM] at hf hPs
  obtain ⟨S, hS⟩ : ∃ S, L + M = S := ⟨_, rfl⟩
  have hPi : (P.size : Int) = (M : Int) := by omega
  have hSi : (L : Int) + (M : Int) = (S : Int) := by omega
  have hSw : IntKind.i64.wrap (S : Int) = (S : Int) := IntWalk.i64_in _ (by omega)
  have hfi : (S : Int) > (room : Int) := by omega
  have hfd : decide ((room : Int) < (S : Int)) = true := by rw [decide_eq_true_eq]; omega
  have HV := Lib.hid hv
  subst hv
  clear h hd hP hL hM hS hPs hf h1 h2 h3 h4 hr hBV
  go_enter Tryz.func266, Tryz.ntmps266
  go_wp2_with fail
  obtain ⟨wq, hwq⟩ : ∃ wq, (w.alloc (.cells #[.string ⟨#[]⟩, .int .u32 0, .int .i64 0] 265)).alloc (.cells #[.string ⟨#[]⟩, .int .u32 0, .int .i64 0] 265) = wq := ⟨_, rfl⟩
  have hz1 : (w.alloc (.cells blk0 265)).heap.size = w.heap.size + 1 := by show (w.heap.push _).size = _; simp
  have hbq : Below w.heap.size w wq := by rw [← hwq]; exact ((Below.refl _ _).alloc (Nat.le_refl _) _).alloc (by show w.heap.size ≤ (w.heap.push _).size; simp) _
  have hr0 : wq.heap[w.heap.size]? = some (.cells blk0 265 (0, 0)) := by rw [← hwq]; exact (Below.heap_alloc (w.alloc (.cells blk0 265)) _ _ (by omega)).trans (heap_alloc_new w _)
  have hr1 : wq.heap[w.heap.size + 1]? = some (.cells blk0 265 (0, 0)) := by
    have := heap_alloc_new (w.alloc (.cells blk0 265)) (.cells blk0 265)
    rw [hz1] at this
    rw [← hwq]
    exact this
  have K := Lib.hid (H.out.below hbq)
  have HBQ := Lib.hid hbq
  have HR0 := Lib.hid hr0
  have HR1 := Lib.hid hr1
  rw [hwq]
  obtain ⟨d0, _, d2, _, _⟩ := K.out.cells
  clear hz1 hbq hr0 hr1 hwq
  go_quiet (fail)
  go_wp2_with fail
  have HQ : Hid (Below wq.heap.size wq (wq.drewN nq)) := Lib.hid ⟨rfl, rfl, rfl, Nat.le_refl _, fun _ _ => rfl⟩
  have KQ := Lib.hid (K.out.below HQ.out)
  have HTQ : Hid (Touch (ftP t pb sb (.slice a L cap)) w (wq.drewN nq)) := Lib.hid (Touch.ofBelow (S := ftP t pb sb (.slice a L cap)) (HBQ.out.trans (HQ.out.mono HBQ.out.size)))
  have HZ0 : Hid ((wq.drewN nq).heap[w.heap.size]? = some (.cells blk0 265 (0, 0))) := Lib.hid HR0.out
  have HZ1 : Hid ((wq.drewN nq).heap[w.heap.size + 1]? = some (.cells blk0 265 (0, 0))) := Lib.hid HR1.out
  clear d0 d2 HQ
  generalize wq.drewN nq = wz at *
  refine (HCUT.out _ KQ.out).mono ?_
  rintro e w2 ⟨rfl, k2, t2⟩
  have y0 := (t2.block _ (Array.getElem?_eq_some_iff.1 HZ0.out).1 (fun e => by have := ftP_lt H.out e; omega)).trans HZ0.out
  have y1 := (t2.block _ (Array.getElem?_eq_some_iff.1 HZ1.out).1 (fun e => by have := ftP_lt H.out e; omega)).trans HZ1.out
  have t3 : Touch (· = w.heap.size + 1) w2 (w2.setRow (w.heap.size + 1) BV) := ⟨rfl, rfl, rfl, by simp [World.setRow], fun j _ hj => setRow_other w2 _ j _ hj⟩
  have hft : ∀ x, ftP t pb sb (.slice none 0 0) x → ¬ x = w.heap.size + 1 := fun x hx e => by
    subst e
    rcases hx with e | e | e | e
    · have := H.out.lt; omega
    · have := H.out.pk.lt; omega
    · have := H.out.sum.lt.1; omega
    · cases e
  have htb : ∀ k, tp = some k → ¬ k = w.heap.size + 1 := fun k hk e => by have := (H.out.sum.lt.2 k hk).1; omega
  have HK3 := Lib.hid (k2.other t3 hft htb)
  have HT3 := Lib.hid ((HTQ.out.trans t2 (fun i hi => Or.inl hi)).trans t3 (fun i hi => Or.inr (by omega)))
  have HY0 := Lib.hid ((t3.block _ (Array.getElem?_eq_some_iff.1 y0).1 (by omega)).trans y0)
  have HY1 : Hid ((w2.setRow (w.heap.size + 1) BV).heap[w.heap.size + 1]? = some (.cells BV 265 (0, 0))) := Lib.hid (setRow_heap w2 _ blk0 BV 265 _ y1)
  clear k2 t2 t3 hft htb y0
  go_wp2_with (refine wpList_store_row rfl 265 _ _ rfl (w.heap.size + 1) BV rfl rfl 265 blk0 y1 hi hold hBVc ?_)
  clear y1
  generalize w2.setRow (w.heap.size + 1) BV = wz2 at *
  refine (HADD.out _ HK3.out).mono ?_
  rintro e w4 ⟨rfl, bv', tp', k4, t4, o4⟩
  have hft : ∀ x, ftP t pb sb (.slice none 0 0) x → x < w.heap.size := fun x hx => by
    rcases hx with e | e | e | e
    · have := H.out.lt; omega
    · have := H.out.pk.lt; omega
    · have := H.out.sum.lt.1; omega
    · cases e
  have x0 := (t4.block _ (Array.getElem?_eq_some_iff.1 HY0.out).1 (fun e => by have := hft _ e; omega)).trans HY0.out
  have x1 := (t4.block _ (Array.getElem?_eq_some_iff.1 HY1.out).1 (fun e => by have := hft _ e; omega)).trans HY1.out
  have hz4 : w.heap.size ≤ wz2.heap.size := HT3.out.size
  have HO4 : Hid (∀ k, bv'.ownBlock = some k → w.heap.size < k) := Lib.hid (fun k hk => by
    rcases o4 k hk with e | e
    · cases e
    · have := (Array.getElem?_eq_some_iff.1 HY1.out).1
      omega)
  have HT4 : Hid (Touch (ftP t pb sb (.slice a L cap)) w w4) := Lib.hid (HT3.out.trans t4 (fun i hi => Or.inl (by
    rcases hi with e | e | e | e
    · exact Or.inl e
    · exact Or.inr (Or.inl e)
    · exact Or.inr (Or.inr (Or.inl e))
    · cases e)))
  have HTAB : Hid (∀ k, tp' = some k → k ≠ w.heap.size) := Lib.hid (fun k hk e => by
    have hT : IsTable w4 k := by
      have := k4.sum
      rw [hk] at this
      exact this.2.1
    have hc := hT 0 (by omega)
    rw [e, cell_of_row _ _ _ _ _ _ x0] at hc
    simp [blk0] at hc)
  have HR : Hid (TakP B w (w4.setRow w.heap.size BV) t pb sb room c n ps (.slice a L cap)) := Lib.hid (by
    have t5 : Touch (· = w.heap.size) w4 (w4.setRow w.heap.size BV) := ⟨rfl, rfl, rfl, by simp [World.setRow], fun j _ hj => setRow_other w4 _ j _ hj⟩
    refine ⟨bv', tp', k4.other t5 (fun x hx e => ?_) (fun k hk e => HTAB.out k hk e), HT4.out.trans t5 (fun i hi => Or.inr (by rw [hi]; exact Nat.le_refl _)), (fun k hk => Or.inr (Nat.le_of_lt (HO4.out k hk)))⟩
    subst e
    rcases hx with e | e | e | e
    · have := H.out.lt; omega
    · have := H.out.pk.lt; omega
    · have := H.out.sum.lt.1; omega
    · exact (fun e => by have := HO4.out _ e; omega) e)
  clear k4 t4 o4 HT4 HO4 HTAB
  go_wp2_with (first | (refine wpList_load_row rfl 265 _ rfl (w.heap.size + 1) rfl 265 BV (0, 0) _ x1 Tryz.underlying265 rfl hi ?_) | (refine wpList_store_row rfl 265 _ _ rfl w.heap.size BV rfl rfl 265 blk0 x0 hi hold hBVc ?_))
  refine bodyPost_ret (v := .tuple #[.agg BV, .bool true]) (results_cell_slotP rfl _ _ w.heap.size BV 265 _ _ rfl rfl (setRow_heap w4 _ blk0 BV 265 _ x0) Tryz.underlying265 rfl hi) rfl ⟨rfl, HR.out⟩
end
end Go.Proofs.YtnachbjhhpnadaaGreatDoor

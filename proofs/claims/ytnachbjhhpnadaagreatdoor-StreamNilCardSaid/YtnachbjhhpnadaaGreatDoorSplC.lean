/-
  LAYER 19's CODE (package split): cut.
-/
import Derived.Test.YtnachbjhhpnadaaGreatDoorSplB
import Derived.Deep.RegionHeld3
namespace Go.Proofs.YtnachbjhhpnadaaGreatDoor
open Go.RowKit RleM SplM
set_option linter.unusedVariables false
set_option linter.unusedSimpArgs false
theorem IsRowB.conv {w : World} {v : Value} {l : List UInt8} (h : IsRowB w v l) (W : World) (hW : W.heap = w.heap) : (convert 71 9 v).run Tryz.prog W = .ok (.string ⟨l.toArray⟩) W := by
  rcases h with ⟨rfl, rfl⟩ | ⟨g, off, cap, rfl, hg, h1, h2, hc, _⟩
  · exact conv_row (W := W) (base := 0) (v := .slice none 0 0) (n := 0) (l := []) (World.ownsRow_nil _ _ _ _)
  · refine run_convert_bytes_back W 71 9 5 ⟨g, off, none⟩ cap l Tryz.underlying71 Tryz.underlying5 Tryz.underlying9 (fun j hj => ?_)
    rw [Addr.add_lit, World.cell?_of_block (w := w) (w' := W) (a := ⟨g, off + j, none⟩) (by rw [hW]), hc j _ (List.getElem?_eq_getElem hj)]
    rfl
def blkV (blk : List Pc) : Array Value := #[.string ⟨(pack blk).toArray⟩, .int .u32 ((crcL (flat blk)).toNat : Int), .int .i64 ((flat blk).length : Int)]
def blk0 : Array Value := #[.string ⟨#[]⟩, .int .u32 0, .int .i64 0]
theorem info_blk (A : Array Value) (h : A.size = 3) : (Tryz.prog.info? 265).map (·.size) = some A.size := by rw [h]; kernel_rfl
theorem zero_blk (W : World) : (zeroValue 265).run Tryz.prog W = .ok (.agg blk0) W := by kernel_rfl
set_option maxHeartbeats 400000 in
theorem value_cell (b : Nat) (X : BitVec 32) (w : World) (h : w.cell? ⟨b, 1, none⟩ = some (.int .u32 (X.toNat : Int))) :
    Calls Tryz.prog 288 #[.pointer (some ⟨b, 0, none⟩)] w fun e w' => e = .returned (.int .u32 (X.toNat : Int)) ∧ w' = w := by
  go_enter Tryz.func288, Tryz.ntmps288
  go_wp2_with fail
  go_ret
  exact ⟨rfl, rfl⟩
section
variable {B t pb sb room : Nat} {w w' : World} {c : UInt8} {n : Nat} {blk : List Pc} {bv : Value} {tp : Option Nat}
set_option maxRecDepth 100000 in
set_option maxHeartbeats 4000000 in
theorem scut_any (w : World) (h : IsSp B w t pb sb room c n blk bv tp) :
    Calls Tryz.prog 269 #[.pointer (some ⟨t, 2, none⟩)] w fun e w' => e = .returned (.agg (blkV blk)) ∧ IsSp B w' t pb sb room c n [] (.slice none 0 0) tp ∧ Touch (ftP t pb sb bv) w w' := by
  have H := Lib.hid h
  obtain ⟨_, _, c2, c3, c4⟩ := h.cells
  have g2 := h.frozen 2
  have g4 := h.frozen 4
  have hcv := fun W hW => h.row.conv W hW
  obtain ⟨a, cap, hv, _⟩ := h.row.slice
  obtain ⟨BODY, hBODY⟩ : ∃ BODY : ByteArray, (⟨(pack blk).toArray⟩ : ByteArray) = BODY := ⟨_, rfl⟩
  obtain ⟨X, hX⟩ : ∃ X, crcL (flat blk) = X := ⟨_, rfl⟩
  obtain ⟨N, hN⟩ : ∃ N, (flat blk).length = N := ⟨_, rfl⟩
  have HV : Hid (IsSum w sb X) := Lib.hid (by rw [← hX]; exact h.sum.is)
  rw [show blkV blk = #[.string BODY, .int .u32 (X.toNat : Int), .int .i64 (N : Int)] by unfold blkV; rw [hBODY, hX, hN]]
  rw [hBODY] at hcv
  rw [hN] at c4
  obtain ⟨L, hL⟩ : ∃ L, (pack blk).length = L := ⟨_, rfl⟩
  rw [hL] at hv
  have HVV := Lib.hid hv
  have HXX := Lib.hid (And.intro hX hN)
  have HBD := Lib.hid hBODY
  subst hv
  clear h hBODY hX hN hL
  go_enter Tryz.func269, Tryz.ntmps269
  go_wp2_with fail
  obtain ⟨wq, hwq⟩ : ∃ wq, w.alloc (.cells #[.string ⟨#[]⟩, .int .u32 0, .int .i64 0] 265) = wq := ⟨_, rfl⟩
  have hbq : Below w.heap.size w wq := by rw [← hwq]; exact (Below.refl _ _).alloc (Nat.le_refl _) _
  have hr0 : wq.heap[w.heap.size]? = some (.cells blk0 265 (0, 0)) := by rw [← hwq]; exact heap_alloc_new _ _
  have hqs : wq.heap.size = w.heap.size + 1 := by rw [← hwq]; show (w.heap.push _).size = _; simp
  have K := Lib.hid (H.out.below hbq)
  have HBQ := Lib.hid hbq
  have HR0 := Lib.hid hr0
  have HQS := Lib.hid hqs
  have HSB : Hid (∀ W, Below wq.heap.size wq W → W.cell? ⟨t, 2, none⟩ = some (.slice a L cap) ∧ W.cell? ⟨t, 3, none⟩ = some (.pointer (some ⟨sb, 0, none⟩)) ∧ W.cell? ⟨t, 4, none⟩ = some (.int .i64 (N : Int)) ∧ W.cell? ⟨sb, 1, none⟩ = some (.int .u32 (X.toNat : Int)) ∧ (convert 71 9 (.slice a L cap)).run Tryz.prog W = .ok (.string BODY) W) := Lib.hid (fun W hb => by
    have k := K.out.below hb
    obtain ⟨_, _, x2, x3, x4⟩ := k.cells
    have hv := k.row.conv W rfl
    obtain ⟨x5, _⟩ := k.sum.is.cells
    rw [HXX.out.2] at x4
    rw [HXX.out.1] at x5
    rw [HBD.out] at hv
    exact ⟨x2, x3, x4, x5, hv⟩)
  rw [hwq]
  clear hwq hbq hr0 hqs c2 c3 c4 g2 g4 hcv
  have hbd : Below wq.heap.size wq (wq.drewN 1) := ⟨rfl, rfl, rfl, Nat.le_refl _, fun _ _ => rfl⟩
  have hba : ∀ o, Below wq.heap.size wq ((wq.drewN 1).alloc o) := fun o => hbd.alloc (Nat.le_refl _) o
  have hbs : ∀ o x y z, Below wq.heap.size wq (((((wq.drewN 1).alloc o).setCell ⟨wq.heap.size, 0, none⟩ x).setCell ⟨wq.heap.size, 1, none⟩ y).setCell ⟨wq.heap.size, 2, none⟩ z) := fun o x y z => (((hba o).setCell (p := ⟨wq.heap.size, 0, none⟩) (Nat.le_refl _) x).setCell (p := ⟨wq.heap.size, 1, none⟩) (Nat.le_refl _) y).setCell (p := ⟨wq.heap.size, 2, none⟩) (Nat.le_refl _) z
  go_region_held3 (fun W => W.cell? ⟨t, 2, none⟩ = some (.slice a L cap) ∧ W.cell? ⟨t, 3, none⟩ = some (.pointer (some ⟨sb, 0, none⟩)) ∧ W.cell? ⟨t, 4, none⟩ = some (.int .i64 (N : Int)) ∧ W.cell? ⟨sb, 1, none⟩ = some (.int .u32 (X.toNat : Int)) ∧ (convert 71 9 (.slice a L cap)).run Tryz.prog W = .ok (.string BODY) W)
    (first | exact HSB.out _ hbd | exact HSB.out _ (hba _) | exact HSB.out _ (hbs _ _ _ _))
    (first | (go_at_call 288; refine (value_cell sb X _ (by first | exact (HSB.out _ hbd).2.2.2.1 | exact (HSB.out _ (hba _)).2.2.2.1)).mono ?_; rintro e w' ⟨rfl, rfl⟩))
  all_goals
    clear hbd hba hbs HSB
    obtain ⟨A, hA⟩ : ∃ A : Array Value, #[Value.string BODY, .int .u32 (X.toNat : Int), .int .i64 (N : Int)] = A := ⟨_, rfl⟩
    rw [hA]
    have hA3 : A.size = 3 := by rw [← hA]; rfl
    have hAc : A.all (·.oneCell') = true := by rw [← hA]; simp [Value.oneCell']
    have HA := Lib.hid hA
    obtain ⟨wb, hwb⟩ : ∃ wb, (wq.alloc (.cells A 265)).drew = wb := ⟨_, rfl⟩
    have hbb : Below wq.heap.size wq wb := by rw [← hwb]; exact ((Below.refl _ _).alloc (Nat.le_refl _) (.cells A 265)).trans ⟨rfl, rfl, rfl, Nat.le_refl _, fun _ _ => rfl⟩
    have hb0 : wb.heap[wq.heap.size]? = some (.cells A 265 (0, 0)) := by rw [← hwb]; exact heap_alloc_new wq (.cells A 265)
    rw [hwb]
    have KB := K.out.below hbb
    have r0 : wb.heap[w.heap.size]? = some (.cells blk0 265 (0, 0)) := (hbb.block _ (by have := HQS.out; omega)).trans HR0.out
    have tB : Touch (ftP t pb sb (.slice a L cap)) w wb := (Touch.ofBelow (S := ftP t pb sb (.slice a L cap)) (HBQ.out.trans (hbb.mono HBQ.out.size)))
    obtain ⟨_, _, d2, _, d4⟩ := KB.cells
    have g2 := KB.frozen 2
    have g4 := KB.frozen 4
    obtain ⟨W5, hW5⟩ : ∃ W5, wb.setCell ⟨t, 2, none⟩ (.slice none 0 0) = W5 := ⟨_, rfl⟩
    have o5 := heap_setCell_same wb t 2 _ _ (.slice none 0 0) KB.obj
    rw [hW5] at o5
    have d54 : W5.cell? ⟨t, 4, none⟩ = some (.int .i64 ((flat blk).length : Int)) := by rw [cell_of_row _ _ _ _ _ _ o5]; rfl
    have g54 : W5.frozen? ⟨t, 4, none⟩ = false := frozen_of_row _ _ _ _ _ o5
    obtain ⟨W6, hW6⟩ : ∃ W6, W5.setCell ⟨t, 4, none⟩ (.int .i64 0) = W6 := ⟨_, rfl⟩
    have o6 := heap_setCell_same W5 t 4 _ _ (.int .i64 0) o5
    rw [hW6] at o6
    have t6 : Touch (· = t) wb W6 := by rw [← hW6, ← hW5]; exact touch_cell (touch_cell (Touch.refl _ _))
    have o6' : W6.heap[t]? = some (.cells #[.int .i64 (room : Int), .pointer (some ⟨pb, 0, none⟩), .slice none 0 0, .pointer (some ⟨sb, 0, none⟩), .int .i64 0] 273 (0, 0)) := o6
    have c63 : W6.cell? ⟨t, 3, none⟩ = some (.pointer (some ⟨sb, 0, none⟩)) := by rw [cell_of_row _ _ _ _ _ _ o6']; rfl
    have s6 := KB.sum.other t6 KB.ne.2.1.symm (fun k hk => (KB.tab k hk).1)
    have HO6 := Lib.hid o6'
    have HP6 := Lib.hid (KB.pk.other t6 KB.ne.1.symm)
    have HT6 := Lib.hid (tB.trans t6 (fun i hi => Or.inl (Or.inl hi)))
    have hne1 : wq.heap.size ≠ t := by have := K.out.lt; omega
    have hne2 : w.heap.size ≠ t := by have := H.out.lt; omega
    have HB6 := Lib.hid ((t6.block _ (Array.getElem?_eq_some_iff.1 hb0).1 hne1).trans hb0)
    have HR6 := Lib.hid ((t6.block _ (Array.getElem?_eq_some_iff.1 r0).1 hne2).trans r0)
    have HS6 := Lib.hid s6
    have HKB : Hid (t ≠ pb ∧ t ≠ sb ∧ pb ≠ sb) := Lib.hid KB.ne
    clear hA hwb hbb hb0 KB r0 tB o5 o6 o6' t6 s6
    go_wp2_with fail
    refine (resetT_any sb _ tp _ HS6.out).mono ?_
    rintro e w7 ⟨rfl, s7, t7⟩
    have hb7 := (t7.block _ (Array.getElem?_eq_some_iff.1 HB6.out).1 (fun e => by have e2 : wq.heap.size = sb := e; have := K.out.sum.lt.1; omega)).trans HB6.out
    have hr7 := (t7.block _ (Array.getElem?_eq_some_iff.1 HR6.out).1 (fun e => by have e2 : w.heap.size = sb := e; have := H.out.sum.lt.1; omega)).trans HR6.out
    have hi := info_blk A hA3
    have hold : blk0.size = A.size := by rw [hA3]; rfl
    have o7 := (t7.block t (Array.getElem?_eq_some_iff.1 HO6.out).1 HKB.out.2.1).trans HO6.out
    have HR : Hid (IsSp B (w7.setRow w.heap.size A) t pb sb room c n [] (.slice none 0 0) tp ∧ Touch (ftP t pb sb (.slice a L cap)) w (w7.setRow w.heap.size A)) := Lib.hid (by
      have t8 : Touch (· = w.heap.size) w7 (w7.setRow w.heap.size A) := ⟨rfl, rfl, rfl, by simp [World.setRow], fun j _ hj => setRow_other w7 _ j _ hj⟩
      have l1 := H.out.lt
      have l2 := H.out.pk.lt
      have l3 := H.out.sum.lt
      refine ⟨⟨(t8.block t (Array.getElem?_eq_some_iff.1 o7).1 (by omega)).trans o7, (HP6.out.other t7 HKB.out.2.2).other t8 (by omega), ?_, Or.inl ⟨rfl, rfl⟩, HKB.out, fun k hk => (by cases hk), H.out.tab, H.out.base, fun k hk => (by cases hk)⟩, (HT6.out.trans t7 (fun i hi => Or.inl (Or.inr (Or.inr (Or.inl hi))))).trans t8 (fun i hi => Or.inr (by rw [hi]; exact Nat.le_refl _))⟩
      have e0 : crcL (flat []) = 0#32 := CrcM.crc_nil
      rw [e0]
      exact s7.other t8 (by omega) (fun k hk => by have := (l3.2 k hk).1; omega))
    clear o7 s7 t7
    go_wp2_with (first | (refine wpList_load_row rfl 265 _ rfl wq.heap.size rfl 265 A (0, 0) _ hb7 Tryz.underlying265 rfl hi ?_) | (refine wpList_store_row rfl 265 _ _ rfl w.heap.size A rfl rfl 265 blk0 hr7 hi hold hAc ?_))
    refine bodyPost_ret (v := .agg A) (results_cell_row rfl _ _ w.heap.size 265 A (0, 0) _ rfl (setRow_heap w7 _ blk0 A 265 _ hr7) Tryz.underlying265 rfl hi) rfl ⟨by rw [HA.out], HR.out⟩
end
end Go.Proofs.YtnachbjhhpnadaaGreatDoor

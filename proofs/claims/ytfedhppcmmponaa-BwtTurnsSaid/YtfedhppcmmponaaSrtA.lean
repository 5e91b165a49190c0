/-
  THE WALKS OF LAYER 16's CODE (package sorter): a part's size and middle; what is told; a part taken off the stack.
-/
import Derived.Test.YtfedhppcmmponaaSrt
import Derived.Test.YtfedhppcmmponaaRotC
import Derived.BigQuiet
import Derived.StillTailTactics
namespace Go.Proofs.Ytfedhppcmmponaa
open Go.RowKit BwtM SrtM PkM
set_option linter.unusedVariables false
def partV (p : Part) : Value := .agg #[.int .i64 (p.lo : Int), .int .i64 (p.hi : Int), .bool p.begun]
/-- The worlds above w in which a part has been boxed. -/
theorem part_box (w : World) (lo hi : Int) (bg : Bool) : (w.alloc (.cells #[.int .i64 lo, .int .i64 hi, .bool bg] 72)).cell? ⟨w.heap.size, 0, none⟩ = some (.int .i64 lo) ∧ (w.alloc (.cells #[.int .i64 lo, .int .i64 hi, .bool bg] 72)).cell? ⟨w.heap.size, 1, none⟩ = some (.int .i64 hi) ∧ (w.alloc (.cells #[.int .i64 lo, .int .i64 hi, .bool bg] 72)).cell? ⟨w.heap.size, 2, none⟩ = some (.bool bg) :=
  ⟨by rw [cell_of_row _ _ 0 _ _ _ (heap_alloc_new _ _)]; rfl, by rw [cell_of_row _ _ 1 _ _ _ (heap_alloc_new _ _)]; rfl, by rw [cell_of_row _ _ 2 _ _ _ (heap_alloc_new _ _)]; rfl⟩
set_option maxHeartbeats 400000 in
theorem psize_any (lo hi : Nat) (bg : Bool) (w : World) (h : lo ≤ hi) (hn : hi ≤ 1000000) : Calls Try.prog 60 #[.agg #[.int .i64 (lo : Int), .int .i64 (hi : Int), .bool bg]] w fun e w' => e = .returned (.int .i64 ((hi - lo : Nat) : Int)) ∧ Below w.heap.size w w' := by
  obtain ⟨c0, c1, c2⟩ := part_box w lo hi bg
  have HB := Lib.hid ((Below.refl w.heap.size w).alloc (Nat.le_refl _) (.cells #[.int .i64 (lo : Int), .int .i64 (hi : Int), .bool bg] 72))
  obtain ⟨d, hd⟩ : ∃ d, hi - lo = d := ⟨_, rfl⟩
  have hdi : (hi : Int) - (lo : Int) = (d : Int) := by omega
  rw [hd]
  go_enter Try.func60, Try.ntmps60
  go_wp2_with fail
  go_ret
  exact ⟨rfl, HB.out⟩
set_option maxHeartbeats 400000 in
theorem pmid_any (lo hi : Nat) (bg : Bool) (w : World) (hl : lo ≤ 1000000) (hn : hi ≤ 1000000) : Calls Try.prog 66 #[.agg #[.int .i64 (lo : Int), .int .i64 (hi : Int), .bool bg]] w fun e w' => e = .returned (.int .i64 (((⟨lo, hi, bg⟩ : Part).mid : Nat) : Int)) ∧ Below w.heap.size w w' := by
  obtain ⟨c0, c1, c2⟩ := part_box w lo hi bg
  have HB := Lib.hid ((Below.refl w.heap.size w).alloc (Nat.le_refl _) (.cells #[.int .i64 (lo : Int), .int .i64 (hi : Int), .bool bg] 72))
  obtain ⟨d, hd⟩ : ∃ d, lo + hi = d := ⟨_, rfl⟩
  have hdi : (lo : Int) + (hi : Int) = (d : Int) := by omega
  have hdd : d ≤ 2000000 := by omega
  have hq : (d : Int) / 2 = ((d / 2 : Nat) : Int) := by omega
  have hm : (⟨lo, hi, bg⟩ : Part).mid = d / 2 := by show (lo + hi) / 2 = _; rw [hd]
  rw [hm]
  have hqd : d / 2 ≤ d := Nat.div_le_self _ _
  generalize d / 2 = q at *
  clear hm hd
  go_enter Try.func66, Try.ntmps66
  go_wp2_with fail
  go_ret
  exact ⟨rfl, HB.out⟩
/-! ### What is told of nil -/
set_option maxHeartbeats 400000 in
theorem sdone_nil (w : World) : Calls Try.prog 23 #[.pointer none] w fun e w' => e = .returned (.bool false) ∧ w' = w := by
  go_enter Try.func23, Try.ntmps23
  go_wp2_with fail
  go_ret
  exact ⟨rfl, rfl⟩
set_option maxHeartbeats 400000 in
theorem ssteps_nil (w : World) : Calls Try.prog 22 #[.pointer none] w fun e w' => e = .returned (.int .i64 0) ∧ w' = w := by
  go_enter Try.func22, Try.ntmps22
  go_wp2_with fail
  go_ret
  exact ⟨rfl, rfl⟩
set_option maxHeartbeats 400000 in
theorem sheld_nil (w : World) : Calls Try.prog 24 #[.pointer none] w fun e w' => e = .returned (.int .i64 0) ∧ w' = w := by
  go_enter Try.func24, Try.ntmps24
  go_wp2_with fail
  go_ret
  exact ⟨rfl, rfl⟩
set_option maxHeartbeats 400000 in
theorem sstep_nil (k : Int) (w : World) : Calls Try.prog 21 #[.pointer none, .int .i64 k] w fun e w' => e = .returned (.int .i64 0) ∧ w' = w := by
  go_enter Try.func21, Try.ntmps21
  go_wp2_with fail
  go_ret
  exact ⟨rfl, rfl⟩
set_option maxHeartbeats 400000 in
theorem sorder_nil (w : World) : Calls Try.prog 25 #[.pointer none] w fun e w' => e = .returned (.slice none 0 0) ∧ w' = w := by
  go_enter Try.func25, Try.ntmps25
  go_wp2_with fail
  refine (sdone_nil w).mono ?_
  rintro e w' ⟨rfl, rfl⟩
  go_wp2_with fail
  go_ret
  exact ⟨rfl, rfl⟩
section
variable {B : Nat} {b bo bc ba n : Nat} {vk vw : Value} {kb : List Nat} {S : SS}
theorem key_eqlIn (d : Nat) (f : Nat) (xs : Array Value) (W : World) : (Op.equalIn (d + 1) 34 (.func (.func f) #[] xs) .nilFunc).run Try.prog W = .ok false W := by
  have hu := Try.underlying34
  simp [Op.equalIn, run_underlying hu]
theorem key_eql (f : Nat) (xs : Array Value) (W : World) : (binOp .eql 34 (.func (.func f) #[] xs) .nilFunc).run Try.prog W = .ok (.bool false) W := by
  simp only [binOp]
  simp [Op.equal, Op.maxDepth, key_eqlIn 9999 f xs W]
theorem nil_eqlIn (d : Nat) (W : World) : (Op.equalIn (d + 1) 34 .nilFunc .nilFunc).run Try.prog W = .ok true W := by
  have hu := Try.underlying34
  simp [Op.equalIn, run_underlying hu]
theorem nil_eql (W : World) : (binOp .eql 34 .nilFunc .nilFunc).run Try.prog W = .ok (.bool true) W := by
  simp only [binOp]
  simp [Op.equal, Op.maxDepth, nil_eqlIn 9999 W]
set_option maxHeartbeats 400000 in
theorem sdone_no (f : Nat) (xs : Array Value) (w : World) (h : SoObj w b bo bc ba n (.func (.func f) #[] xs) vw S) : Calls Try.prog 23 #[.pointer (some ⟨b, 0, none⟩)] w fun e w' => e = .returned (.bool false) ∧ w' = w := by
  obtain ⟨_, _, _, _, c4, _⟩ := h.cells
  have he := fun W => key_eql f xs W
  go_enter Try.func23, Try.ntmps23
  go_wp2_with fail
  go_ret
  exact ⟨rfl, rfl⟩
set_option maxHeartbeats 400000 in
theorem sdone_yes (w : World) (h : SoObj w b bo bc ba n .nilFunc vw S) : Calls Try.prog 23 #[.pointer (some ⟨b, 0, none⟩)] w fun e w' => e = .returned (.bool true) ∧ w' = w := by
  obtain ⟨_, _, _, _, c4, _⟩ := h.cells
  have he := fun W => nil_eql W
  go_enter Try.func23, Try.ntmps23
  go_wp2_with fail
  go_ret
  exact ⟨rfl, rfl⟩
set_option maxHeartbeats 400000 in
theorem ssteps_any (w : World) (h : SoObj w b bo bc ba n vk vw S) : Calls Try.prog 22 #[.pointer (some ⟨b, 0, none⟩)] w fun e w' => e = .returned (.int .i64 (S.steps : Int)) ∧ w' = w := by
  obtain ⟨_, _, _, _, _, _, _, _, _, _, c10⟩ := h.cells
  go_enter Try.func22, Try.ntmps22
  go_wp2_with fail
  go_ret
  exact ⟨rfl, rfl⟩
set_option maxHeartbeats 400000 in
theorem sheld_any (w : World) (h : SoObj w b bo bc ba n vk vw S) (hn : n ≤ 1000000) : Calls Try.prog 24 #[.pointer (some ⟨b, 0, none⟩)] w fun e w' => e = .returned (.int .i64 ((3 * n : Nat) : Int)) ∧ ∃ m, w' = w.drewN m := by
  obtain ⟨c0, c1, c2, _⟩ := h.cells
  obtain ⟨q, hq⟩ : ∃ q, n + n = q := ⟨_, rfl⟩
  obtain ⟨r, hr⟩ : ∃ r, 3 * n = r := ⟨_, rfl⟩
  have h1 : (n : Int) + (n : Int) = (q : Int) := by omega
  have h2 : (q : Int) + (n : Int) = (r : Int) := by omega
  have h3 : IntKind.i64.wrap (q : Int) = (q : Int) := IntWalk.i64_in _ (by omega)
  have h4 : IntKind.i64.wrap (r : Int) = (r : Int) := IntWalk.i64_in _ (by omega)
  rw [hr]
  clear hq hr h
  go_enter Try.func24, Try.ntmps24
  go_wp2_with fail
  go_quiet (fail)
  go_wp2_with fail
  go_ret
  exact ⟨rfl, _, rfl⟩
theorem pslice_init (g m cap : Nat) (hm : m ≤ cap) (hb : m ≤ 1000000) (W : World) : (Instr.slice 60 (.slice (some ⟨g, 0, none⟩) (m + 1) cap) none (some (.int .i64 (m : Int))) none).run Try.prog W = .ok (.slice (some ⟨g, 0, none⟩) m cap) W := by
  have hs : (sizeOf (Try.prog.elem 60)).run Try.prog W = .ok 3 W := by kernel_rfl
  have e : ((m : Int)).toNat = m := by omega
  rw [run_slice_h W 60 (some ⟨g, 0, none⟩) (m + 1) cap (by kernel_rfl) .i64 _ (by omega) (by omega), hs]
  simp [Result.andThen, sliced, Addr.add]
/-- Behind a part that is taken off. -/
def popS (S : SS) (ps : List Part) : SS := { S with ps := ps, laid := 0, first := 0, second := 0 }
theorem IsSo.pop {w w' : World} {ps : List Part} {g L cap : Nat} (h : IsSo B w b bo bc ba vk (.slice (some ⟨g, 0, none⟩) (L + 1) cap) n kb S) (ht : Touch (· = b) w w') (ho : SoObj w' b bo bc ba n vk (.slice (some ⟨g, 0, none⟩) L cap) (popS S ps)) (hw : OwnP w B (.slice (some ⟨g, 0, none⟩) L cap) ps) :
    IsSo B w' b bo bc ba vk (.slice (some ⟨g, 0, none⟩) L cap) n kb (popS S ps) := by
  obtain ⟨a1, a2, a3, a4, a5, a6⟩ := h.apart
  have hwap : ∀ k, (Value.slice (some ⟨g, 0, none⟩) L cap).ownBlock = some k → k ≠ b ∧ k ≠ bo ∧ k ≠ bc ∧ k ≠ ba := fun k hk => h.wap k hk
  exact ⟨ho, h.ro.other ht (fun e => a1 e.symm), h.rc.other ht (fun e => a2 e.symm), h.ra.other ht (fun e => a3 e.symm), h.lo, h.lc, h.la, hw.same (fun k hk => ht.block k (hw.lt k hk).2 (hwap k hk).1), h.apart, hwap, h.base, fun g' hg => ⟨Nat.lt_of_lt_of_le (h.kap g' hg).1 ht.size, (h.kap g' hg).2⟩⟩
set_option maxRecDepth 100000 in
set_option maxHeartbeats 2000000 in
theorem ssorted_any (w : World) (ps : List Part) (p : Part) (h : IsSo B w b bo bc ba vk vw n kb S) (hps : S.ps = ps ++ [p]) (hl : ps.length ≤ 1000000) : Calls Try.prog 61 #[.pointer (some ⟨b, 0, none⟩)] w fun e w' =>
    e = .returned (.tuple #[]) ∧ ∃ vw', IsSo B w' b bo bc ba vk vw' n kb (popS S ps) ∧ Touch (· = b) w w' := by
  have H := Lib.hid h
  have hw := h.wt
  rw [hps] at hw
  obtain ⟨g, cap, rfl, hBg, hgl, hcap, c0, c1, c2, f2⟩ := hw.top
  have HPOP := Lib.hid hw.pop
  have HW := Lib.hid hw
  obtain ⟨_, _, _, _, _, d5, d6, d7, d8, _⟩ := h.obj.cells
  have e5 := h.obj.frozen 5 (by omega)
  have e6 := h.obj.frozen 6 (by omega)
  have e7 := h.obj.frozen 7 (by omega)
  have e8 := h.obj.frozen 8 (by omega)
  have HO := Lib.hid h.obj
  have HPS := Lib.hid hps
  obtain ⟨L, hL⟩ : ∃ L, ps.length = L := ⟨_, rfl⟩
  rw [hL] at HPOP hcap d5 hl H HW HO
  have hLi : (((L + 1 : Nat) : Nat) : Int) - 1 = (L : Int) := by omega
  have hLi2 : ((L : Int) + 1) - 1 = (L : Int) := by omega
  have hLw : IntKind.i64.wrap (L : Int) = (L : Int) := IntWalk.i64_in _ (by omega)
  have hsl := fun W => pslice_init g L cap (by omega) hl W
  have hLw2 : IntKind.i64.wrap ((L : Int) + 1 - 1) = (L : Int) := by rw [hLi2]; exact hLw
  clear h hw hps hL c0 c1 c2 f2
  go_enter Try.func61, Try.ntmps61
  go_wp2_with fail
  go_still_tail 14, (by kernel_rfl)
  change wpList _ _ _ _ _ (w.drewN 1)
  have HF : Hid (SoObj (((((w.drewN 1).setCell ⟨b, 5, none⟩ (.slice (some ⟨g, 0, none⟩) L cap)).setCell ⟨b, 6, none⟩ (.int .i64 0)).setCell ⟨b, 7, none⟩ (.int .i64 0)).setCell ⟨b, 8, none⟩ (.int .i64 0)) b bo bc ba n vk (.slice (some ⟨g, 0, none⟩) L cap) (popS S ps)) := Lib.hid ((((HO.out.drewN 1).set5 _ ps).set6 0).set7 0 |>.set8 0)
  have HT : Hid (Touch (· = b) w (((((w.drewN 1).setCell ⟨b, 5, none⟩ (.slice (some ⟨g, 0, none⟩) L cap)).setCell ⟨b, 6, none⟩ (.int .i64 0)).setCell ⟨b, 7, none⟩ (.int .i64 0)).setCell ⟨b, 8, none⟩ (.int .i64 0))) := Lib.hid (touch_cell (touch_cell (touch_cell (touch_cell (touch_drewN _ _ _)))))
  have HR : Hid (IsSo B (((((w.drewN 1).setCell ⟨b, 5, none⟩ (.slice (some ⟨g, 0, none⟩) L cap)).setCell ⟨b, 6, none⟩ (.int .i64 0)).setCell ⟨b, 7, none⟩ (.int .i64 0)).setCell ⟨b, 8, none⟩ (.int .i64 0)) b bo bc ba vk (.slice (some ⟨g, 0, none⟩) L cap) n kb (popS S ps)) := Lib.hid (H.out.pop HT.out HF.out HPOP.out)
  clear HF
  go_wp2_with fail
  refine bodyPost_end (results_none rfl _ _ _) rfl ?_
  exact ⟨rfl, _, HR.out, HT.out⟩
end
end Go.Proofs.Ytfedhppcmmponaa

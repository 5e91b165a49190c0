/-
  THE WALKS OF LAYER 16's CODE (package sorter): a part is begun.
-/
import Derived.Test.YtfedhppcmmponaaSrtB
import Derived.Test.YtfedhppcmmponaaRegK
namespace Go.Proofs.Ytfedhppcmmponaa
open Go.RowKit BwtM SrtM PkM
set_option linter.unusedVariables false
set_option linter.unusedSimpArgs false
def pArr (lo hi : Nat) (bg : Bool) : Array Value := #[.int .i64 (lo : Int), .int .i64 (hi : Int), .bool bg]
theorem pinfo : (Try.prog.info? 72).map (·.size) = some 3 := by kernel_rfl
section
variable {B : Nat} {b bo bc ba n : Nat} {vk vw : Value} {kb : List Nat} {S : SS}
set_option maxRecDepth 100000 in
set_option maxHeartbeats 2000000 in
theorem sbegin_small (w : World) (ps : List Part) (p : Part) (h : IsSo B w b bo bc ba vk vw n kb S) (hps : S.ps = ps ++ [p]) (hl : ps.length ≤ 1000000) (hlo : p.lo ≤ p.hi) (hhi : p.hi ≤ 1000000) (hs : p.hi - p.lo < 2) (hb : B ≤ w.heap.size) :
    Calls Try.prog 57 #[.pointer (some ⟨b, 0, none⟩), .agg #[.int .i64 (p.lo : Int), .int .i64 (p.hi : Int), .bool p.begun]] w fun e w' =>
    PassP B w w' b bo bc ba n vk kb (popS S ps) e := by
  have hg := heap_alloc_new w (.cells #[.int .i64 (p.lo : Int), .int .i64 (p.hi : Int), .bool p.begun] 72)
  have hB0 := (Below.refl w.heap.size w).alloc (Nat.le_refl _) (.cells #[.int .i64 (p.lo : Int), .int .i64 (p.hi : Int), .bool p.begun] 72)
  have H0 := Lib.hid (h.below hB0)
  have HB0 := Lib.hid hB0
  have HKB := Lib.hid h.kap
  have hu := Try.underlying72
  have hi := pinfo
  have HSZ := Lib.hid (fun W => psize_any p.lo p.hi p.begun W hlo hhi)
  have hd2 : ((p.hi - p.lo : Nat) : Int) < 2 := by omega
  have HPB := Lib.hid h.base.1
  obtain ⟨d, hd⟩ : ∃ d, p.hi - p.lo = d := ⟨_, rfl⟩
  rw [hd] at HSZ hd2
  clear hB0 h hd
  go_enter Try.func57, Try.ntmps57
  go_wp2_with fail
  generalize w.alloc (.cells #[.int .i64 (p.lo : Int), .int .i64 (p.hi : Int), .bool p.begun] 72) = w1 at *
  go_wp2_with (refine wpList_load_row rfl 72 _ rfl w.heap.size rfl 72 #[.int .i64 (p.lo : Int), .int .i64 (p.hi : Int), .bool p.begun] (0, 0) _ hg hu rfl hi ?_)
  refine (HSZ.out _).mono ?_
  rintro e w2 ⟨rfl, hb2⟩
  have H2 := Lib.hid (H0.out.below hb2)
  have HB2 := Lib.hid (HB0.out.trans (hb2.mono HB0.out.size))
  clear hb2 hg
  go_wp2_with fail
  refine (ssorted_any w2 ps p H2.out hps hl).mono ?_
  rintro e w3 ⟨rfl, vw', hs3, ht3⟩
  have H3 := Lib.hid hs3
  have HT3 := Lib.hid ht3
  have HBB : Hid (Below B w w3) := Lib.hid ((HB2.out.mono hb).trans (ht3.below (Nat.le_trans hb HB2.out.size) (fun k hk => by have := HPB.out; have e : k = b := hk; omega)))
  have HKS : Hid (KbSame w w3 kb) := Lib.hid (fun g hg => by
    obtain ⟨k1, k2, _⟩ := HKB.out g hg
    rw [ht3.block g (Nat.lt_of_lt_of_le k1 HB2.out.size) k2]
    exact HB2.out.block g k1)
  clear hs3 ht3
  go_wp2_with fail
  first
    | refine bodyPost_end (results_none rfl _ _ _) rfl ?_
    | refine bodyPost_ret (results_none rfl _ _ _) rfl ?_
  exact ⟨rfl, _, H3.out, HBB.out, HKS.out⟩
/-- The part on top is marked. -/
theorem IsSo.marked {w : World} {ps : List Part} {p : Part} {g L cap : Nat} (h : IsSo B w b bo bc ba vk (.slice (some ⟨g, 0, none⟩) (L + 1) cap) n kb S) (hL : ps.length = L) (hps : S.ps = ps ++ [p]) :
    IsSo B (w.setCell ⟨g, L * 3 + 2, none⟩ (.bool true)) b bo bc ba vk (.slice (some ⟨g, 0, none⟩) (L + 1) cap) n kb { S with ps := ps ++ [⟨p.lo, p.hi, true⟩] } ∧ Touch (· = g) w (w.setCell ⟨g, L * 3 + 2, none⟩ (.bool true)) := by
  subst hL
  obtain ⟨a1, a2, a3, a4, a5, a6⟩ := h.apart
  have t : Touch (· = g) w (w.setCell ⟨g, ps.length * 3 + 2, none⟩ (.bool true)) := touch_cell (Touch.refl _ _)
  obtain ⟨n1, n2, n3, n4⟩ := h.wap g rfl
  have hw := h.wt
  rw [hps] at hw
  obtain ⟨F, o1, o2⟩ := h.obj
  exact ⟨⟨⟨F, o1.other t (fun e => n1 e.symm), ⟨o2.f0, o2.f1, o2.f2, o2.f3, o2.f4, o2.f5, o2.f6, o2.f7, o2.f8, o2.f9, o2.f10⟩⟩, h.ro.other t (fun e => n2 e.symm), h.rc.other t (fun e => n3 e.symm), h.ra.other t (fun e => n4 e.symm), h.lo, h.lc, h.la, hw.mark, h.apart, h.wap, h.base, fun g' hg => ⟨Nat.lt_of_lt_of_le (h.kap g' hg).1 t.size, (h.kap g' hg).2⟩⟩, t⟩
theorem pindex_last (g m cap : Nat) (hb : m ≤ 1000000) (W : World) : (Instr.indexAt 60 (.slice (some ⟨g, 0, none⟩) (m + 1) cap) (.int .i64 (m : Int))).run Try.prog W = .ok (.pointer (some ⟨g, m * 3, none⟩)) W := by
  have hs : (sizeOf (Try.prog.elem 60)).run Try.prog W = .ok 3 W := by kernel_rfl
  have e : ((m : Int)).toNat = m := by omega
  rw [run_indexAt_slice W 60 _ _ _ .i64 _ (by kernel_rfl), if_pos (by omega), hs]
  show Result.ok (Value.pointer (some (Addr.add ⟨g, 0, none⟩ (((m : Int)).toNat * 3)))) W = _
  rw [Addr.add_lit, Nat.zero_add, e]
/-- What S tells stands behind the push, too. -/
theorem part_kept {w5 wA w6 : World} {L cap g pb : Nat} {lo hi : Int} {bg : Bool} {o : Obj} (h : IsSo B w5 b bo bc ba vk (.slice (some ⟨g, 0, none⟩) (L + 1) cap) n kb S) (hb : b < w5.heap.size) (hp : pb < w5.heap.size) (hg : g ≠ pb) (hA : Below w5.heap.size w5 wA)
    (hk : ∀ k, k < (wA.alloc o).heap.size → (Value.slice (some ⟨g, 0, none⟩) (L + 1) cap).ownBlock ≠ some k → w6.heap[k]? = (wA.alloc o).heap[k]?)
    (hS : ∀ W, Below w5.heap.size w5 W → W.cell? ⟨b, 5, none⟩ = some (.slice (some ⟨g, 0, none⟩) (L + 1) cap) ∧ W.cell? ⟨pb, 0, none⟩ = some (.int .i64 lo) ∧ W.cell? ⟨pb, 1, none⟩ = some (.int .i64 hi) ∧ W.cell? ⟨pb, 2, none⟩ = some (.bool bg)) :
    w6.cell? ⟨b, 5, none⟩ = some (.slice (some ⟨g, 0, none⟩) (L + 1) cap) ∧ w6.cell? ⟨pb, 0, none⟩ = some (.int .i64 lo) ∧ w6.cell? ⟨pb, 1, none⟩ = some (.int .i64 hi) ∧ w6.cell? ⟨pb, 2, none⟩ = some (.bool bg) := by
  have hs : (wA.alloc o).heap.size = wA.heap.size + 1 := by simp
  have hz := hA.size
  obtain ⟨s0, s1, s2, s3⟩ := hS _ (hA.alloc hA.size o)
  have kb6 := hk b (by omega) (fun e => (h.wap b e).1 rfl)
  have kp6 := hk pb (by omega) (fun e => hg (by simpa [Value.ownBlock] using e))
  exact ⟨(World.cell?_of_block (w := wA.alloc o) (a := ⟨b, 5, none⟩) kb6).trans s0, (World.cell?_of_block (w := wA.alloc o) (a := ⟨pb, 0, none⟩) kp6).trans s1, (World.cell?_of_block (w := wA.alloc o) (a := ⟨pb, 1, none⟩) kp6).trans s2, (World.cell?_of_block (w := wA.alloc o) (a := ⟨pb, 2, none⟩) kp6).trans s3⟩
theorem part_frozen {w5 wA w6 : World} {L cap g : Nat} {o : Obj} (h : IsSo B w5 b bo bc ba vk (.slice (some ⟨g, 0, none⟩) (L + 1) cap) n kb S) (hb : b < w5.heap.size) (hA : Below w5.heap.size w5 wA)
    (hk : ∀ k, k < (wA.alloc o).heap.size → (Value.slice (some ⟨g, 0, none⟩) (L + 1) cap).ownBlock ≠ some k → w6.heap[k]? = (wA.alloc o).heap[k]?) : w6.frozen? ⟨b, 5, none⟩ = false := by
  have hs : (wA.alloc o).heap.size = wA.heap.size + 1 := by simp
  have hz := hA.size
  have kb6 := hk b (by omega) (fun e => (h.wap b e).1 rfl)
  exact (World.frozen?_of_block (w := w5) (a := ⟨b, 5, none⟩) (kb6.trans ((alloc_old (by omega)).trans (hA.block b hb)))).trans (h.obj.frozen 5 (by omega))
def halvesS (S : SS) (ps : List Part) (p : Part) : SS := { S with ps := ps ++ [⟨p.lo, p.hi, true⟩] ++ [⟨p.mid, p.hi, false⟩] ++ [⟨p.lo, p.mid, false⟩] }
set_option maxRecDepth 100000 in
set_option maxHeartbeats 8000000 in
theorem sbegin_big (w : World) (ps : List Part) (p : Part) (h : IsSo B w b bo bc ba vk vw n kb S) (hps : S.ps = ps ++ [p]) (hl : ps.length ≤ 900000) (hlo : p.lo ≤ p.hi) (hhi : p.hi ≤ 1000000) (hs : 2 ≤ p.hi - p.lo) (hb : B ≤ w.heap.size) :
    Calls Try.prog 57 #[.pointer (some ⟨b, 0, none⟩), .agg #[.int .i64 (p.lo : Int), .int .i64 (p.hi : Int), .bool p.begun]] w fun e w' =>
    PassP B w w' b bo bc ba n vk kb (halvesS S ps p) e := by
  have hg := heap_alloc_new w (.cells #[.int .i64 (p.lo : Int), .int .i64 (p.hi : Int), .bool p.begun] 72)
  have hB0 := (Below.refl w.heap.size w).alloc (Nat.le_refl _) (.cells #[.int .i64 (p.lo : Int), .int .i64 (p.hi : Int), .bool p.begun] 72)
  have H0 := Lib.hid (h.below hB0)
  have HB0 := Lib.hid hB0
  have HSZ0 : Hid ((w.alloc (.cells #[.int .i64 (p.lo : Int), .int .i64 (p.hi : Int), .bool p.begun] 72)).heap.size = w.heap.size + 1) := Lib.hid (by simp)
  have HKB := Lib.hid h.kap
  have hu := Try.underlying72
  have hi := pinfo
  have HSZ := Lib.hid (fun W => psize_any p.lo p.hi p.begun W hlo hhi)
  have HMID := Lib.hid (fun W => pmid_any p.lo p.hi p.begun W (by omega) hhi)
  have HBS := Lib.hid h.base.1
  have HLT := Lib.hid h.obj.lt
  have HWL := Lib.hid (fun k hk => (h.wt.lt k hk).2)
  have hd2 : ¬ ((p.hi - p.lo : Nat) : Int) < 2 := by omega
  have hmh : p.mid ≤ 1000000 := by show (p.lo + p.hi) / 2 ≤ _; omega
  have hmb : (⟨p.lo, p.hi, p.begun⟩ : Part).mid = p.mid := rfl
  rw [hmb] at HMID
  obtain ⟨d, hd⟩ : ∃ d, p.hi - p.lo = d := ⟨_, rfl⟩
  rw [hd] at HSZ hd2
  have HPS := Lib.hid hps
  clear hB0 h hd hps hmb
  go_enter Try.func57, Try.ntmps57
  go_wp2_with fail
  generalize w.alloc (.cells #[.int .i64 (p.lo : Int), .int .i64 (p.hi : Int), .bool p.begun] 72) = w1 at *
  go_wp2_with (refine wpList_load_row rfl 72 _ rfl w.heap.size rfl 72 #[.int .i64 (p.lo : Int), .int .i64 (p.hi : Int), .bool p.begun] (0, 0) _ hg hu rfl hi ?_)
  refine (HSZ.out _).mono ?_
  rintro e w2 ⟨rfl, hb2⟩
  have H2 := Lib.hid (H0.out.below hb2)
  have HB2 := Lib.hid (HB0.out.trans (hb2.mono HB0.out.size))
  have HG2 : Hid (w2.heap[w.heap.size]? = some (.cells #[.int .i64 (p.lo : Int), .int .i64 (p.hi : Int), .bool p.begun] 72 (0, 0))) := Lib.hid ((hb2.block _ (by rw [HSZ0.out]; omega)).trans hg)
  clear hb2 hg
  have hw := H2.out.wt
  rw [HPS.out] at hw
  obtain ⟨g, cap, rfl, hBg, hgl, hcap, c0, c1, c2, f2⟩ := hw.top
  have HGL := Lib.hid hgl
  have HBG := Lib.hid hBg
  obtain ⟨L, hL⟩ : ∃ L, ps.length = L := ⟨_, rfl⟩
  have HL := Lib.hid hL
  rw [hL] at H2 hcap c2 f2 hl
  have hix := fun W => pindex_last g L cap (by omega) W
  have hLi2 : ((L : Int) + 1) - 1 = (L : Int) := by omega
  have hLw : IntKind.i64.wrap (L : Int) = (L : Int) := IntWalk.i64_in _ (by omega)
  have hLw2 : IntKind.i64.wrap ((L : Int) + 1 - 1) = (L : Int) := by rw [hLi2]; exact hLw
  obtain ⟨_, _, _, _, _, d5, _⟩ := H2.out.obj.cells
  have H3 := Lib.hid ((H2.out.drewN 1).marked (ps := ps) (p := p) hL HPS.out)
  clear hw hBg hgl c0 c1 hL
  go_wp2_with fail
  go_still_tail 12, (by kernel_rfl)
  change wpList _ _ _ _ _ (w2.drewN 1)
  go_wp2_with fail
  have HT3 : Hid (Touch (· = g) w2 ((w2.drewN 1).setCell ⟨g, L * 3 + 2, none⟩ (.bool true))) := Lib.hid ((touch_drewN (· = g) w2 1).trans H3.out.2 (fun _ h => Or.inl h))
  have H3s := Lib.hid H3.out.1
  clear c2 f2 d5 hix H3
  generalize (w2.drewN 1).setCell ⟨g, L * 3 + 2, none⟩ (.bool true) = w5 at *
  have hgw : g ≠ w.heap.size := fun e => by
    have := HWL.out g rfl
    omega
  obtain ⟨pb, hpb⟩ : ∃ pb, w.heap.size = pb := ⟨_, rfl⟩
  have HPBE := Lib.hid hpb
  rw [hpb] at HG2 HSZ0 hgw HLT
  have hpb2 : pb < w2.heap.size := (Array.getElem?_eq_some_iff.1 HG2.out).1
  have HG5 : Hid (w5.heap[pb]? = some (.cells #[.int .i64 (p.lo : Int), .int .i64 (p.hi : Int), .bool p.begun] 72 (0, 0))) := Lib.hid ((HT3.out.block pb hpb2 (fun e => hgw e.symm)).trans HG2.out)
  have HBL5 : Hid (b < w5.heap.size ∧ pb < w5.heap.size ∧ B ≤ w5.heap.size) := Lib.hid ⟨H3s.out.obj.lt, Nat.lt_of_lt_of_le hpb2 HT3.out.size, Nat.le_trans hb (Nat.le_trans HB2.out.size HT3.out.size)⟩
  obtain ⟨_, _, _, _, _, d5, _⟩ := H3s.out.obj.cells
  have q0 : w5.cell? ⟨pb, 0, none⟩ = some (.int .i64 (p.lo : Int)) := by rw [cell_of_row _ _ 0 _ _ _ HG5.out]; rfl
  have q1 : w5.cell? ⟨pb, 1, none⟩ = some (.int .i64 (p.hi : Int)) := by rw [cell_of_row _ _ 1 _ _ _ HG5.out]; rfl
  have q2 : w5.cell? ⟨pb, 2, none⟩ = some (.bool p.begun) := by rw [cell_of_row _ _ 2 _ _ _ HG5.out]; rfl
  have HXX : Hid (∀ W, Below w5.heap.size w5 W → W.cell? ⟨b, 5, none⟩ = some (.slice (some ⟨g, 0, none⟩) (L + 1) cap) ∧ W.cell? ⟨pb, 0, none⟩ = some (.int .i64 (p.lo : Int)) ∧ W.cell? ⟨pb, 1, none⟩ = some (.int .i64 (p.hi : Int)) ∧ W.cell? ⟨pb, 2, none⟩ = some (.bool p.begun) ∧ W.heap[pb]? = some (.cells #[.int .i64 (p.lo : Int), .int .i64 (p.hi : Int), .bool p.begun] 72 (0, 0))) := Lib.hid (fun W hW => by
    obtain ⟨l1, l2, _⟩ := HBL5.out
    exact ⟨(hW.cell (p := ⟨b, 5, none⟩) l1).trans d5, (hW.cell (p := ⟨pb, 0, none⟩) l2).trans q0, (hW.cell (p := ⟨pb, 1, none⟩) l2).trans q1, (hW.cell (p := ⟨pb, 2, none⟩) l2).trans q2, (hW.block pb l2).trans HG5.out⟩)
  have HDD : Hid (Below w5.heap.size w5 w5.drew) := Lib.hid ⟨rfl, rfl, rfl, Nat.le_refl _, fun _ _ => rfl⟩
  have HBX : Hid (∀ W : World, ∀ j u, (pflat [⟨p.mid, p.hi, false⟩, ⟨p.lo, p.mid, false⟩])[j]? = some u → (W.alloc (.cells #[.int .i64 (p.mid : Int), .int .i64 (p.hi : Int), .bool false, .int .i64 (p.lo : Int), .int .i64 (p.mid : Int), .bool false] 72)).cell? ⟨W.heap.size, j, none⟩ = some u) := Lib.hid (fun W j u hu => by
    have hh := heap_alloc_new W (.cells #[.int .i64 (p.mid : Int), .int .i64 (p.hi : Int), .bool false, .int .i64 (p.lo : Int), .int .i64 (p.mid : Int), .bool false] 72)
    rw [cell_of_row _ _ j _ _ _ hh, ← hu]
    simp [pflat, pcells])
  have HOW : Hid (∀ W, Below w5.heap.size w5 W → OwnP (W.alloc (.cells #[.int .i64 (p.mid : Int), .int .i64 (p.hi : Int), .bool false, .int .i64 (p.lo : Int), .int .i64 (p.mid : Int), .bool false] 72)) B (.slice (some ⟨g, 0, none⟩) (L + 1) cap) (ps ++ [⟨p.lo, p.hi, true⟩])) := Lib.hid (fun W hW => by
    have h0 := H3s.out.wt
    exact World.ownsRow.alloc (h0.same (fun k hk => hW.block k (h0.lt k hk).2)) _)
  have HLE : Hid ((ps ++ [(⟨p.lo, p.hi, true⟩ : Part)]).length + 2 ≤ 1000000) := Lib.hid (by rw [List.length_append, HL.out]; simp; omega)
  have HWB : Hid (∀ W : World, Below w5.heap.size w5 W → B ≤ (W.alloc (.cells #[.int .i64 (p.mid : Int), .int .i64 (p.hi : Int), .bool false, .int .i64 (p.lo : Int), .int .i64 (p.mid : Int), .bool false] 72)).heap.size) := Lib.hid (fun W hW => by
    have h1 := hW.size
    have h2 := HBL5.out.2.2
    simp
    omega)
  have HGP : Hid (g ≠ pb) := Lib.hid hgw
  have HPN : Hid (pb ≠ b) := Lib.hid (by have := HLT.out; omega)
  have hSS : (fun W : World => W.cell? ⟨b, 5, none⟩ = some (.slice (some ⟨g, 0, none⟩) (L + 1) cap) ∧ W.cell? ⟨pb, 0, none⟩ = some (.int .i64 (p.lo : Int)) ∧ W.cell? ⟨pb, 1, none⟩ = some (.int .i64 (p.hi : Int)) ∧ W.cell? ⟨pb, 2, none⟩ = some (.bool p.begun)) w5.drew := ⟨d5, q0, q1, q2⟩
  refine wp_region_K 19 (fun W : World => W.cell? ⟨b, 5, none⟩ = some (.slice (some ⟨g, 0, none⟩) (L + 1) cap) ∧ W.cell? ⟨pb, 0, none⟩ = some (.int .i64 (p.lo : Int)) ∧ W.cell? ⟨pb, 1, none⟩ = some (.int .i64 (p.hi : Int)) ∧ W.cell? ⟨pb, 2, none⟩ = some (.bool p.begun)) (by kernel_rfl) ?_
  refine wpAnyK_take (i := 0) rfl (by kernel_rfl) (by kernel_rfl) (by kernel_rfl) (by kernel_rfl) (fun _ _ _ h => h) (v := ?_) (Or.inl ⟨by rfl, ?_⟩) hSS ?_
  rotate_left
  · rintro W ⟨k5, kp0, kp1, kp2⟩
    go_simp
    try with_reducible rfl
  try simp only [Act.put, List.setIfInBounds_toArray, List.set_cons_zero, List.set_cons_succ]
  refine wpAnyK_take (i := 1) rfl (by kernel_rfl) (by kernel_rfl) (by kernel_rfl) (by kernel_rfl) (fun _ _ _ h => h) (v := ?_) (Or.inl ⟨by rfl, ?_⟩) hSS ?_
  rotate_left
  · rintro W ⟨k5, kp0, kp1, kp2⟩
    go_simp
    try with_reducible rfl
  try simp only [Act.put, List.setIfInBounds_toArray, List.set_cons_zero, List.set_cons_succ]
  refine wpAnyK_take (i := 2) rfl (by kernel_rfl) (by kernel_rfl) (by kernel_rfl) (by kernel_rfl) (fun _ _ _ h => h) (v := ?_) (Or.inl ⟨by rfl, ?_⟩) hSS ?_
  rotate_left
  · rintro W ⟨k5, kp0, kp1, kp2⟩
    go_simp
    try with_reducible rfl
  try simp only [Act.put, List.setIfInBounds_toArray, List.set_cons_zero, List.set_cons_succ]
  refine wpAnyK_take (i := 3) rfl (by kernel_rfl) (by kernel_rfl) (by kernel_rfl) (by kernel_rfl) (fun _ _ _ h => h) (v := ?_) (Or.inl ⟨by rfl, ?_⟩) hSS ?_
  rotate_left
  · rintro W ⟨k5, kp0, kp1, kp2⟩
    go_simp
    try with_reducible rfl
  try simp only [Act.put, List.setIfInBounds_toArray, List.set_cons_zero, List.set_cons_succ]
  refine wpAnyK_take (i := 4) rfl (by kernel_rfl) (by kernel_rfl) (by kernel_rfl) (by kernel_rfl) (fun _ _ _ h => h) (v := ?_) (Or.inl ⟨by rfl, ?_⟩) hSS ?_
  rotate_left
  · rintro W ⟨k5, kp0, kp1, kp2⟩
    go_simp
    try with_reducible rfl
  try simp only [Act.put, List.setIfInBounds_toArray, List.set_cons_zero, List.set_cons_succ]
  refine wpAnyK_take (i := 5) rfl (by kernel_rfl) (by kernel_rfl) (by kernel_rfl) (by kernel_rfl) (fun _ _ _ h => h) (v := ?_) (Or.inl ⟨by rfl, ?_⟩) hSS ?_
  rotate_left
  · rintro W ⟨k5, kp0, kp1, kp2⟩
    go_simp
    try with_reducible rfl
  try simp only [Act.put, List.setIfInBounds_toArray, List.set_cons_zero, List.set_cons_succ]
  refine wpAnyK_take (i := 7) rfl (by kernel_rfl) (by kernel_rfl) (by kernel_rfl) (by kernel_rfl) (fun _ _ _ h => h) (v := ?_) (Or.inl ⟨by rfl, ?_⟩) hSS ?_
  rotate_left
  · rintro W ⟨k5, kp0, kp1, kp2⟩
    go_simp
    try with_reducible rfl
  try simp only [Act.put, List.setIfInBounds_toArray, List.set_cons_zero, List.set_cons_succ]
  refine wpAnyK_take (i := 8) rfl (by kernel_rfl) (by kernel_rfl) (by kernel_rfl) (by kernel_rfl) (fun _ _ _ h => h) (v := ?_) (Or.inl ⟨by rfl, ?_⟩) hSS ?_
  rotate_left
  · rintro W ⟨k5, kp0, kp1, kp2⟩
    go_simp
    try with_reducible rfl
  try simp only [Act.put, List.setIfInBounds_toArray, List.set_cons_zero, List.set_cons_succ]
  refine wpAnyK_take (i := 10) rfl (by kernel_rfl) (by kernel_rfl) (by kernel_rfl) (by kernel_rfl) (fun _ _ _ h => h) (v := ?_) (Or.inl ⟨by rfl, ?_⟩) hSS ?_
  rotate_left
  · rintro W ⟨k5, kp0, kp1, kp2⟩
    go_simp
    try with_reducible rfl
  try simp only [Act.put, List.setIfInBounds_toArray, List.set_cons_zero, List.set_cons_succ]
  refine wpAnyK_take (i := 11) rfl (by kernel_rfl) (by kernel_rfl) (by kernel_rfl) (by kernel_rfl) (fun _ _ _ h => h) (v := ?_) (Or.inl ⟨by rfl, ?_⟩) hSS ?_
  rotate_left
  · rintro W ⟨k5, kp0, kp1, kp2⟩
    go_simp
    try with_reducible rfl
  try simp only [Act.put, List.setIfInBounds_toArray, List.set_cons_zero, List.set_cons_succ]
  refine wpAnyK_take (i := 12) rfl (by kernel_rfl) (by kernel_rfl) (by kernel_rfl) (by kernel_rfl) (fun _ _ _ h => h) (v := ?_) (Or.inl ⟨by rfl, ?_⟩) hSS ?_
  rotate_left
  · rintro W ⟨k5, kp0, kp1, kp2⟩
    go_simp
    try with_reducible rfl
  try simp only [Act.put, List.setIfInBounds_toArray, List.set_cons_zero, List.set_cons_succ]
  have HSS2 : Hid (∀ W, Below w5.heap.size w5 W → (fun W : World => W.cell? ⟨b, 5, none⟩ = some (.slice (some ⟨g, 0, none⟩) (L + 1) cap) ∧ W.cell? ⟨pb, 0, none⟩ = some (.int .i64 (p.lo : Int)) ∧ W.cell? ⟨pb, 1, none⟩ = some (.int .i64 (p.hi : Int)) ∧ W.cell? ⟨pb, 2, none⟩ = some (.bool p.begun)) W) := Lib.hid (fun W hW => by
    obtain ⟨k5, kp0, kp1, kp2, _⟩ := HXX.out W hW
    exact ⟨k5, kp0, kp1, kp2⟩)
  clear HXX
  refine wpAnyK_ready (rs := [6]) (by kernel_rfl) (by simp) ?_
  intro i hi
  simp only [List.mem_cons, List.not_mem_nil, or_false] at hi
  subst hi
  refine wpOp_in rfl ?_
  intro K hK
  go_simp
  go_at_call 66
  refine (HMID.out _).mono ?_
  rintro e wA1 ⟨rfl, hbA⟩
  have hbC1 : Below w5.heap.size w5 wA1 := HDD.out.trans hbA
  have hS1 := HSS2.out wA1 hbC1
  refine hK _ _ ⟨fun _ => hS1, ?_⟩
  try simp only [Act.put, List.setIfInBounds_toArray, List.set_cons_zero, List.set_cons_succ]
  clear hK hbA
  refine wpAnyK_take (i := 9) rfl (by kernel_rfl) (by kernel_rfl) (by kernel_rfl) (by kernel_rfl) (fun _ _ _ h => h) (v := ?_) (Or.inl ⟨by rfl, ?_⟩) hS1 ?_
  rotate_left
  · rintro W ⟨k5, kp0, kp1, kp2⟩
    go_simp
    try with_reducible rfl
  try simp only [Act.put, List.setIfInBounds_toArray, List.set_cons_zero, List.set_cons_succ]
  refine wpAnyK_ready (rs := [13]) (by kernel_rfl) (by simp) ?_
  intro i hi
  simp only [List.mem_cons, List.not_mem_nil, or_false] at hi
  subst hi
  refine wpOp_in rfl ?_
  intro K hK
  go_simp
  go_at_call 66
  refine (HMID.out _).mono ?_
  rintro e wA2 ⟨rfl, hbA⟩
  have hbC2 : Below w5.heap.size w5 wA2 := hbC1.trans (hbA.mono hbC1.size)
  have hS2 := HSS2.out wA2 hbC2
  refine hK _ _ ⟨fun _ => hS2, ?_⟩
  try simp only [Act.put, List.setIfInBounds_toArray, List.set_cons_zero, List.set_cons_succ]
  clear hK hbA
  refine wpAnyK_take (i := 14) rfl (by kernel_rfl) (by kernel_rfl) (by kernel_rfl) (by kernel_rfl) (fun _ _ _ h => h) (v := ?_) (Or.inl ⟨by rfl, ?_⟩) hS2 ?_
  rotate_left
  · rintro W ⟨k5, kp0, kp1, kp2⟩
    go_simp
    try with_reducible rfl
  try simp only [Act.put, List.setIfInBounds_toArray, List.set_cons_zero, List.set_cons_succ]
  have hbX : Below w5.heap.size w5 (wA2.alloc (.cells #[.int .i64 (p.mid : Int), .int .i64 (p.hi : Int), .bool false, .int .i64 (p.lo : Int), .int .i64 (p.mid : Int), .bool false] 72)) := hbC2.alloc hbC2.size _
  have hSX := HSS2.out _ hbX
  refine wpAnyK_ready (rs := [15]) (by kernel_rfl) (by simp) ?_
  intro i hi
  simp only [List.mem_cons, List.not_mem_nil, or_false] at hi
  subst hi
  refine wpOp_in rfl ?_
  intro K hK
  go_simp
  refine hK _ _ ⟨fun _ => hSX, ?_⟩
  try simp only [Act.put, List.setIfInBounds_toArray, List.set_cons_zero, List.set_cons_succ]
  clear hK
  refine wpAnyK_ready (rs := [16]) (by kernel_rfl) (by simp) ?_
  intro i hi
  simp only [List.mem_cons, List.not_mem_nil, or_false] at hi
  subst hi
  refine wpOp_in rfl ?_
  intro K hK
  refine step_push_parts (wA2.alloc (.cells #[.int .i64 (p.mid : Int), .int .i64 (p.hi : Int), .bool false, .int .i64 (p.lo : Int), .int .i64 (p.mid : Int), .bool false] 72)) (by rfl) _ _ (by rfl) B wA2.heap.size 2 (.slice (some ⟨g, 0, none⟩) (L + 1) cap) (ps ++ [⟨p.lo, p.hi, true⟩]) [⟨p.mid, p.hi, false⟩, ⟨p.lo, p.mid, false⟩] (by rfl) (HOW.out wA2 hbC2) (by rfl) (by rfl) (HBX.out wA2) HLE.out (HWB.out wA2 hbC2) ?_
  intro v' w6 hO6 hB6 hk6 hf6
  have hS6 := part_kept H3s.out HBL5.out.1 HBL5.out.2.1 (fun e => HGP.out e) hbC2 hk6 HSS2.out
  refine hK _ _ ⟨fun _ => hS6, ?_⟩
  try simp only [Act.put, List.setIfInBounds_toArray, List.set_cons_zero, List.set_cons_succ]
  clear hK
  have hS6b := hS6
  obtain ⟨f5, _⟩ := hS6
  have g5 : w6.frozen? ⟨b, 5, none⟩ = false := part_frozen H3s.out HBL5.out.1 hbC2 hk6
  obtain ⟨va, vc, hve⟩ := hO6.slice
  obtain ⟨L6, hL6⟩ : ∃ L6, (ps ++ [(⟨p.lo, p.hi, true⟩ : Part)] ++ [(⟨p.mid, p.hi, false⟩ : Part), ⟨p.lo, p.mid, false⟩]).length = L6 := ⟨_, rfl⟩
  rw [hL6] at hve
  subst hve
  refine wpAnyK_ready (rs := [17]) (by kernel_rfl) (by simp) ?_
  intro i hi
  simp only [List.mem_cons, List.not_mem_nil, or_false] at hi
  subst hi
  refine wpOp_in rfl ?_
  intro K hK
  go_simp
  refine hK _ _ ⟨fun _ => hS6b, ?_⟩
  try simp only [Act.put, List.setIfInBounds_toArray, List.set_cons_zero, List.set_cons_succ]
  clear hK
  refine wpAnyK_ready (rs := [18]) (by kernel_rfl) (by simp) ?_
  intro i hi
  simp only [List.mem_cons, List.not_mem_nil, or_false] at hi
  subst hi
  refine wpOp_in rfl ?_
  intro K hK
  go_simp
  refine hK _ _ ⟨fun _ => hS6b, ?_⟩
  try simp only [Act.put, List.setIfInBounds_toArray, List.set_cons_zero, List.set_cons_succ]
  clear hK
  refine wpAnyK_ready (rs := [19]) (by kernel_rfl) (by simp) ?_
  intro i hi
  simp only [List.mem_cons, List.not_mem_nil, or_false] at hi
  subst hi
  have HPU : Hid (Pushed w5 w6 (.slice (some ⟨g, 0, none⟩) (L + 1) cap) (.slice va L6 vc)) := Lib.hid (by
    have hs2 : (wA2.alloc (.cells #[.int .i64 (p.mid : Int), .int .i64 (p.hi : Int), .bool false, .int .i64 (p.lo : Int), .int .i64 (p.mid : Int), .bool false] 72)).heap.size = wA2.heap.size + 1 := by simp
    have hz := hbC2.size
    exact ⟨hB6.os.trans hbC2.os, hB6.tape.trans hbC2.tape, hB6.output.trans hbC2.output, by have := hB6.size; omega, fun k hk hn => (hk6 k (by omega) hn).trans ((alloc_old (by omega)).trans (hbC2.block k hk)), fun k hk => (hf6 k hk).imp id (fun h => by omega)⟩)
  have HG : Hid (IsSo B (w6.setCell ⟨b, 5, none⟩ (.slice va L6 vc)) b bo bc ba vk (.slice va L6 vc) n kb (halvesS S ps p)) := Lib.hid (H3s.out.grown HPU.out hO6 0 (fun _ => trivial) (by unfold halvesS; simp))
  have HBB : Hid (Below B w (w6.setCell ⟨b, 5, none⟩ (.slice va L6 vc))) := Lib.hid (by
    have h1 : Below B w w5 := (HB2.out.mono hb).trans (HT3.out.below (Nat.le_trans hb HB2.out.size) (fun k hk => by have := HBG.out; have e : k = g := hk; omega))
    have h2 : Below B w5 w6 := (hbC2.mono HBL5.out.2.2).trans (((Below.refl B wA2).alloc (by have := hbC2.size; have := HBL5.out.2.2; omega) _).trans hB6)
    exact (h1.trans h2).setCell (p := ⟨b, 5, none⟩) HBS.out _)
  have HKS : Hid (KbSame w (w6.setCell ⟨b, 5, none⟩ (.slice va L6 vc)) kb) := Lib.hid (fun x hx => by
    obtain ⟨k1, k2, k3, k4, k5x, k6⟩ := HKB.out x hx
    have hl2 : x < w2.heap.size := Nat.lt_of_lt_of_le k1 HB2.out.size
    have hl5 : x < w5.heap.size := Nat.lt_of_lt_of_le hl2 HT3.out.size
    rw [heap_setCell_other _ _ _ _ (by exact k2), HPU.out.block x hl5 k6, HT3.out.block x hl2 (fun e => k6 (by rw [e]; rfl))]
    exact HB2.out.block x k1)
  refine wpOp_in rfl ?_
  intro K hK
  go_simp
  refine hK _ _ ⟨fun h => absurd rfl h, ?_⟩
  refine wpAnyK_done (by kernel_rfl) ?_ _
  refine bodyPost_end (results_none rfl _ _ _) rfl ?_
  exact ⟨rfl, _, HG.out, HBB.out, HKS.out⟩
end
end Go.Proofs.Ytfedhppcmmponaa

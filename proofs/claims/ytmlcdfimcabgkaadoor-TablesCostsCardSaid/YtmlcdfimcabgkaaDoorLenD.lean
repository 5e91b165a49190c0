/-
  THE WALKS OF LAYER 9's CODE (package lens): trees joined.
-/
import Derived.Test.YtmlcdfimcabgkaaDoorLenB
import Derived.Test.YtmlcdfimcabgkaaDoorLenC
import Derived.Test.YtmlcdfimcabgkaaDoorJoinMath
import Derived.Laws.CopyRow
import Derived.Deep.Cut
import Derived.Shelf.Abstract
namespace Go.Proofs.YtmlcdfimcabgkaaDoor
open Go.RowKit SymM HufM
set_option linter.unusedVariables false
theorem Took.math {p : At} {n : Nat} {D wf ab : Row} {S J K : Nat} {w w' : World} {t : Int} (h : Took p n D wf ab S J K w w' t) :
    ∃ S1 J1, TookM n D wf S J K t S1 J1 ∧ Queue p n D wf ab S1 J1 K w' ∧ Touch (fun k => k = p.sb ∨ k = p.jb) w w' := by
  rcases h with ⟨h1, h2, h3, h4⟩ | ⟨h1, h2, h3, h4, h5⟩
  · exact ⟨S + 1, J, Or.inl ⟨h1, h2, rfl, rfl⟩, h3, h4.mono (fun i hi => Or.inl hi)⟩
  · exact ⟨S, J + 1, Or.inr ⟨h1, h2, h3, rfl, rfl⟩, h4, h5.mono (fun i hi => Or.inr hi)⟩
/-- A builtin copy whose run is known. -/
theorem wpList_copyRun' {P : Program} {ops : Array Oper} {rest : List Oper} {o : Oper} {a : Act} {w : World} {Q : Exit → Act → World → Prop} (hgd : o.guard = none) (d s : Operand) (t t' : TypeId)
    (ho : o.op = .call { callee := .builtin .copy, args := #[d, s], argTypes := #[t, t'] }) (v u : Value) (hd : a.eval d = v) (hs : a.eval s = u) {v' : Value} {w' : World}
    (hr : (Builtin.copy_ #[t, t'] o.type #[v, u]).run P w = .ok v' w') (h : wpList P ops Q rest (a.put o.dst v') w') : wpList P ops Q (o :: rest) a w :=
  wpList_plain hgd fun K hK => by
    unfold Oper.wp execOp
    simp only [ho, resolve, invoke, builtin, Sem.run_bind, Sem.run_pure, Result.andThen_ok, List.map_toArray, List.map_cons, List.map_nil, hd, hs, hr]
    exact hK _ _ h
def boxN (w : World) (b : Nat) : Nat := match w.cell? ⟨b, 0, none⟩ with
  | some (.int _ x) => x.toNat
  | _ => 0
def rowA (N : Nat) (d : Row) : Array Value := (((List.range N).map d).map iv64).toArray
theorem rowA_size (N : Nat) (d : Row) : (rowA N d).size = N := by simp [rowA]
theorem rowA_cells (N : Nat) (d : Row) : (rowA N d).all (·.oneCell') = true := by
  rw [Array.all_eq_true]
  intro i h
  simp [rowA, iv64, Value.oneCell']
theorem zero515 : Tryd.zeroCells79 = rowA 515 (fun _ => 0) := by kernel_rfl
theorem info515 (d : Row) : (Tryd.prog.info? 79).map (·.size) = some (rowA 515 d).size := by rw [rowA_size]; kernel_rfl
/-- The weights of symbols, and 0 behind them. -/
def wf0 (zs : List Int) : Row := fun i => zs.getD i 0
theorem wf0_row (M : Nat) (zs : List Int) (h : zs.length ≤ M) : (((rowA M (fun _ => 0)).toList.take 0 ++ zs.map iv64 ++ (rowA M (fun _ => 0)).toList.drop (0 + (zs.map iv64).length)).toArray) = rowA M (wf0 zs) := by
  apply Array.toList_inj.1
  show (((List.range M).map (fun _ => (0 : Int))).map iv64).take 0 ++ zs.map iv64 ++ (((List.range M).map (fun _ => (0 : Int))).map iv64).drop (0 + (zs.map iv64).length) = ((List.range M).map (wf0 zs)).map iv64
  rw [List.take_zero, List.nil_append, Nat.zero_add, List.length_map, ← List.map_drop, ← List.map_append]
  congr 1
  apply List.ext_getElem
  · simp; omega
  · intro i h1 h2
    rw [List.getElem_map, List.getElem_range]
    unfold wf0
    by_cases hi : i < zs.length
    · rw [List.getElem_append_left hi, List.getD_eq_getElem?_getD, List.getElem?_eq_getElem hi]; rfl
    · rw [List.getElem_append_right (by omega), List.getD_eq_getElem?_getD, List.getElem?_eq_none (by omega)]
      simp
theorem copy_weights (W : World) (g ty : Nat) (a : Option Addr) (cap : Nat) (zs : List Int) (hv : IsInts W (.slice a zs.length cap) zs) (h1 : 1 ≤ zs.length) (hz : zs.length ≤ 515) (hg : W.heap[g]? = some (.cells (rowA 515 (fun _ => 0)) 79 (0, 0))) :
    (Builtin.copy_ #[22, 22] ty #[.slice (some ⟨g, 0, none⟩) 515 515, .slice a zs.length cap]).run Tryd.prog W = .ok (goInt zs.length) (W.setRow g (rowA 515 (wf0 zs))) := by
  obtain ⟨b, off, k, he, _⟩ := hv.cell (show 0 < zs.length by omega)
  simp only [Value.slice.injEq] at he
  obtain ⟨rfl, _, rfl⟩ := he
  have := run_copy_row (P := Tryd.prog) W 22 22 ty 3 g 0 515 515 ⟨b, off, none⟩ zs.length cap (rowA 515 (fun _ => 0)) 79 (zs.map iv64) Tryd.underlying22 (by kernel_rfl) hg (by rw [List.length_map]; exact (Nat.min_eq_left hz).symm) (fun j v hj => by
    rw [List.getElem?_map] at hj
    obtain ⟨x, hx, rfl⟩ := Option.map_eq_some_iff.1 hj
    obtain ⟨a2, cap2, h2, h3⟩ := hv
    obtain ⟨b3, o3, h4, h5⟩ := h3 j x hx
    simp only [Value.slice.injEq] at h2
    rw [← h2.1] at h4
    simp only [Option.some.injEq, Addr.mk.injEq] at h4
    obtain ⟨rfl, rfl, _⟩ := h4
    rw [Addr.add_lit]
    exact h5) (by rw [List.length_map, rowA_size]; omega) (fun v hv => by
    obtain ⟨x, _, rfl⟩ := List.mem_map.1 hv
    rfl)
  rw [wf0_row 515 zs hz, List.length_map] at this
  exact this
/-- What lies there behind the copy of the weights. -/
structure Laid (N : Nat) (zs : List Int) (v : Value) (w W : World) : Prop where
  r : ArrD 79 W N 515 (fun _ => 0)
  wt : ArrD 79 W (N + 1) 515 (wf0 zs)
  ab : ArrD 79 W (N + 1 + 1) 515 (fun _ => 0)
  size : W.heap.size = N + 1 + 1 + 1
  bel : Below N w W
  ints : IsInts W v zs
theorem laid_of (w : World) (zs : List Int) (v : Value) (hv : IsInts w v zs) : Laid w.heap.size zs v w ((((w.alloc (.cells (rowA 515 (fun _ => 0)) 79)).alloc (.cells (rowA 515 (fun _ => 0)) 79)).alloc (.cells (rowA 515 (fun _ => 0)) 79)).setRow (w.heap.size + 1) (rowA 515 (wf0 zs))) ∧
    (((w.alloc (.cells (rowA 515 (fun _ => 0)) 79)).alloc (.cells (rowA 515 (fun _ => 0)) 79)).alloc (.cells (rowA 515 (fun _ => 0)) 79)).heap[w.heap.size + 1]? = some (.cells (rowA 515 (fun _ => 0)) 79 (0, 0)) ∧
    IsInts (((w.alloc (.cells (rowA 515 (fun _ => 0)) 79)).alloc (.cells (rowA 515 (fun _ => 0)) 79)).alloc (.cells (rowA 515 (fun _ => 0)) 79)) v zs := by
  generalize hO : Obj.cells (rowA 515 (fun _ => 0)) 79 (0, 0) = O
  have s1 : (w.alloc O).heap.size = w.heap.size + 1 := by simp
  have s2 : ((w.alloc O).alloc O).heap.size = w.heap.size + 1 + 1 := by simp
  have s3 : (((w.alloc O).alloc O).alloc O).heap.size = w.heap.size + 1 + 1 + 1 := by simp
  have b1 : Below w.heap.size w (((w.alloc O).alloc O).alloc O) := (((Below.refl _ w).alloc (Nat.le_refl _) O).alloc (by rw [s1]; omega) O).alloc (by rw [s2]; omega) O
  have h0 : (((w.alloc O).alloc O).alloc O).heap[w.heap.size]? = some O := by
    rw [Below.heap_alloc _ O _ (by rw [s2]; omega), Below.heap_alloc _ O _ (by rw [s1]; omega)]
    exact heap_alloc_new w O
  have h1 : (((w.alloc O).alloc O).alloc O).heap[w.heap.size + 1]? = some O := by
    rw [Below.heap_alloc _ O _ (by rw [s2]; omega)]
    have := heap_alloc_new (w.alloc O) O
    rw [s1] at this
    exact this
  have h2 : (((w.alloc O).alloc O).alloc O).heap[w.heap.size + 1 + 1]? = some O := by
    have := heap_alloc_new ((w.alloc O).alloc O) O
    rw [s2] at this
    exact this
  have hi := hv.below b1
  subst hO
  refine ⟨⟨?_, ?_, ?_, ?_, ?_, ?_⟩, h1, hi⟩
  · exact (setRow_other _ (w.heap.size + 1) w.heap.size _ (by omega)).trans h0
  · exact setRow_heap _ _ _ _ _ _ h1
  · exact (setRow_other _ (w.heap.size + 1) (w.heap.size + 1 + 1) _ (by omega)).trans h2
  · show (World.setRow _ _ _).heap.size = _
    simp [World.setRow]
  · exact below_setRow b1 (by omega) _
  · exact hv.below (below_setRow b1 (by omega) _)
theorem three_boxes (w : World) (x y z : Int) (s : Nat) (hs : w.heap.size = s) :
    Box (((w.alloc (.cells #[.int .i64 x] 3)).alloc (.cells #[.int .i64 y] 3)).alloc (.cells #[.int .i64 z] 3)) s x ∧ Box (((w.alloc (.cells #[.int .i64 x] 3)).alloc (.cells #[.int .i64 y] 3)).alloc (.cells #[.int .i64 z] 3)) (s + 1) y ∧
    Box (((w.alloc (.cells #[.int .i64 x] 3)).alloc (.cells #[.int .i64 y] 3)).alloc (.cells #[.int .i64 z] 3)) (s + 1 + 1) z ∧ Below s w (((w.alloc (.cells #[.int .i64 x] 3)).alloc (.cells #[.int .i64 y] 3)).alloc (.cells #[.int .i64 z] 3)) := by
  subst hs
  have s1 : ∀ o, (w.alloc o).heap.size = w.heap.size + 1 := by simp
  have s2 : ∀ o o', ((w.alloc o).alloc o').heap.size = w.heap.size + 1 + 1 := by simp
  refine ⟨?_, ?_, ?_, ((Below.refl _ w).alloc (Nat.le_refl _) _).alloc (by rw [s1]; omega) _ |>.alloc (by rw [s2]; omega) _⟩
  · unfold Box
    rw [Below.heap_alloc _ _ _ (by rw [s2]; omega), Below.heap_alloc _ _ _ (by rw [s1]; omega)]
    exact heap_alloc_new w _
  · unfold Box
    rw [Below.heap_alloc _ _ _ (by rw [s2]; omega)]
    have := heap_alloc_new (w.alloc (.cells #[.int .i64 x] 3)) (.cells #[.int .i64 y] 3)
    rw [s1] at this
    exact this
  · unfold Box
    have := heap_alloc_new ((w.alloc (.cells #[.int .i64 x] 3)).alloc (.cells #[.int .i64 y] 3)) (.cells #[.int .i64 z] 3)
    rw [s2] at this
    exact this
theorem queue_start {N nb ob g n : Nat} {D wf ab : Row} {w6 W : World} (hW : ArrD 79 w6 (N + 1) 515 wf) (hA : ArrD 79 w6 (N + 1 + 1) 515 ab) (hn : Box w6 nb n)
    (ho : w6.heap[ob]? = some (.cells #[.slice (some ⟨g, 0, none⟩) n n] 22 (0, 0))) (hg : RowD w6 g n D) (hnb : N + 1 + 1 + 1 = nb) (h1 : nb < g) (h2 : g < ob) (hb : Below (ob + 1) w6 W)
    {sb jb xb : Nat} (b1 : Box W sb 0) (b2 : Box W jb n) (b3 : Box W xb n) (d1 : sb ≠ jb) (d2 : sb ≠ xb) (d3 : jb ≠ xb) (e1 : ob < sb) (e2 : ob < jb) (e3 : ob < xb) : Queue ⟨N + 1, N + 1 + 1, nb, ob, sb, jb, xb, g⟩ n D wf ab 0 n n W := by
  refine ⟨(hb.block _ (by show N + 1 < ob + 1; omega)).trans hW, (hb.block _ (by show N + 1 + 1 < ob + 1; omega)).trans hA, (hb.block _ (by show nb < ob + 1; omega)).trans hn, (hb.block _ (by show ob < ob + 1; omega)).trans ho, b1, b2, b3, (hb.block _ (by show g < ob + 1; omega)).trans hg, ?_⟩
  simp only [At.Apart, List.pairwise_cons, List.mem_cons, List.not_mem_nil, or_false, forall_eq_or_imp, forall_eq]
  refine ⟨?_, ?_, ?_, ?_, ?_, ?_, ?_, fun a h => h.elim, List.Pairwise.nil⟩ <;> omega
set_option maxRecDepth 100000 in
set_option maxHeartbeats 4000000 in
theorem join_any (v : Value) (zs : List Int) (w : World) (hv : IsInts w v zs) (h2 : 2 ≤ zs.length) (hz : zs.length ≤ 258) (hpos : ∀ z ∈ zs, 0 ≤ z ∧ z ≤ 1099511627776) :
    Calls Tryd.prog 64 #[v] w fun e w' => ∃ (ab : Row), e = .returned (.agg (rowA 515 ab)) ∧ JoinP zs ab ∧ Below w.heap.size w w' := by
  have HV0 := Lib.hid hv
  have HPOS := Lib.hid hpos
  obtain ⟨a, cap, rfl, _⟩ := hv
  obtain ⟨n, hn⟩ : ∃ n, zs.length = n := ⟨_, rfl⟩
  have HN := Lib.hid hn
  rw [hn] at h2 hz ⊢
  have hN0 := laid_of w zs (.slice a zs.length cap) HV0.out
  have hcp := fun ty => copy_weights _ (w.heap.size + 1) ty a cap zs hN0.2.2 (by omega) (by omega) hN0.2.1
  have hlaid := hN0.1
  rw [← zero515] at hcp hlaid
  rw [hn] at hcp hlaid
  generalize hW4 : (((w.alloc (.cells Tryd.zeroCells79 79)).alloc (.cells Tryd.zeroCells79 79)).alloc (.cells Tryd.zeroCells79 79)).setRow (w.heap.size + 1) (rowA 515 (wf0 zs)) = W4 at *
  have HCP := Lib.hid hcp
  have HL := Lib.hid hlaid
  clear hn hpos hN0 hcp hlaid hW4
  go_enter Tryd.func64, Tryd.ntmps64
  go_wp2_with (refine wpList_copyRun' rfl _ _ 22 22 rfl _ _ rfl rfl (HCP.out _) ?_)
  have hl4 := HL.out.size
  obtain ⟨N, hN⟩ : ∃ N, w.heap.size = N := ⟨_, rfl⟩
  rw [hN] at hl4
  have hs4 : (W4.alloc (.cells #[.int .i64 n] 3)).heap.size = N + 1 + 1 + 1 + 1 := by simp [hl4]
  have HB4 : Hid (Below W4.heap.size W4 (W4.alloc (.cells #[.int .i64 n] 3))) := Lib.hid ((Below.refl _ W4).alloc (Nat.le_refl _) _)
  have HNB : Hid (Box (W4.alloc (.cells #[.int .i64 n] 3)) W4.heap.size n) := Lib.hid (heap_alloc_new W4 _)
  have HI4 : Hid (IsInts (W4.alloc (.cells #[.int .i64 n] 3)) (.slice a n cap) zs) := Lib.hid (HL.out.ints.below HB4.out)
  generalize hW4b : W4.alloc (.cells #[.int .i64 n] 3) = w4 at *
  refine (byWeight_any (.slice a n cap) zs w4 HI4.out (by rw [HN.out]; omega)).mono ?_
  rintro e w5 ⟨r, rfl, g, D, rfl, hg, hR, hBlk, hB5⟩
  rw [HN.out] at hR hBlk
  have HR5 := Lib.hid hR
  have HBLK := Lib.hid hBlk
  have HB5 := Lib.hid hB5
  have HG := Lib.hid hg
  clear hR hBlk hB5 hg
  rw [HN.out]
  go_wp2_with fail
  obtain ⟨ob, hob⟩ : ∃ ob, w5.heap.size = ob := ⟨_, rfl⟩
  have hg4 : N + 1 + 1 + 1 + 1 ≤ g := by rw [← hs4]; exact HG.out
  have hob4 : g < ob := by rw [← hob]; exact RowI.lt HR5.out
  have hbw : Below N w w4 := by
    have h1 := HL.out.bel
    have h2 : Below w.heap.size W4 w4 := HB4.out.mono (show w.heap.size ≤ W4.heap.size by omega)
    rw [← hN]
    exact h1.trans h2
  have b45 : Below (N + 1 + 1 + 1 + 1) w4 w5 := hs4 ▸ HB5.out
  have b56 : Below (N + 1 + 1 + 1 + 1) w5 (w5.alloc (.cells #[.slice (some ⟨g, 0, none⟩) n n] 22)) := (Below.refl (N + 1 + 1 + 1 + 1) w5).alloc (show N + 1 + 1 + 1 + 1 ≤ w5.heap.size by omega) _
  have b46 := b45.trans b56
  have hrow6 : RowD (w5.alloc (.cells #[.slice (some ⟨g, 0, none⟩) n n] 22)) g n D := RowI.below HR5.out ((Below.refl _ w5).alloc (Nat.le_refl _) _)
  have hob6 : (w5.alloc (.cells #[.slice (some ⟨g, 0, none⟩) n n] 22)).heap[ob]? = some (.cells #[.slice (some ⟨g, 0, none⟩) n n] 22 (0, 0)) := by rw [← hob]; exact heap_alloc_new w5 _
  have hs6 : (w5.alloc (.cells #[.slice (some ⟨g, 0, none⟩) n n] 22)).heap.size = ob + 1 := by simp [hob]
  have hlw4 := HL.out
  rw [hN] at hlw4
  have h4b : Below (N + 1 + 1 + 1) W4 w4 := by have := HB4.out; rw [hl4] at this; exact this
  have hA6 : ArrD 79 (w5.alloc (.cells #[.slice (some ⟨g, 0, none⟩) n n] 22)) (N + 1 + 1) 515 (fun _ => 0) := (b46.block _ (by omega)).trans ((h4b.block _ (by omega)).trans hlw4.ab)
  have hW6 : ArrD 79 (w5.alloc (.cells #[.slice (some ⟨g, 0, none⟩) n n] 22)) (N + 1) 515 (wf0 zs) := (b46.block _ (by omega)).trans ((h4b.block _ (by omega)).trans hlw4.wt)
  have hr6 : ArrD 79 (w5.alloc (.cells #[.slice (some ⟨g, 0, none⟩) n n] 22)) N 515 (fun _ => 0) := (b46.block _ (by omega)).trans ((h4b.block _ (by omega)).trans hlw4.r)
  have hn6 : Box (w5.alloc (.cells #[.slice (some ⟨g, 0, none⟩) n n] 22)) (N + 1 + 1 + 1) n := by
    have h1 := HNB.out
    rw [hl4] at h1
    exact (b46.block _ (by omega)).trans h1
  have hb6 : Below N w (w5.alloc (.cells #[.slice (some ⟨g, 0, none⟩) n n] 22)) := hbw.trans (b46.mono (by omega))
  generalize (w5.alloc (.cells #[.slice (some ⟨g, 0, none⟩) n n] 22)) = w6 at *
  obtain ⟨c6, f6⟩ := hn6.cell
  have HRow6 := Lib.hid hrow6
  have HOb6 := Lib.hid hob6
  have HA6 := Lib.hid hA6
  have HW6 := Lib.hid hW6
  have HR6 := Lib.hid hr6
  have HN6 := Lib.hid hn6
  have HB6 := Lib.hid hb6
  have HNN := Lib.hid hN
  have hnd : Hid (N + 1 + 1 + 1 < g) := Lib.hid (by omega)
  rw [hob]
  clear hrow6 hob6 hA6 hW6 hr6 hn6 hb6 hbw b45 b56 b46 h4b hlw4 hW4b hs4 hN hob hl4 hg4
  generalize hnb : N + 1 + 1 + 1 = nb at *
  have hlt6 : nb < w6.heap.size := by have := hnd.out; omega
  have k1 : ∀ o, (w6.alloc o).cell? ⟨nb, 0, none⟩ = some (.int .i64 n) := fun o => (((Below.refl _ w6).alloc (Nat.le_refl _) o).cell (p := ⟨nb, 0, none⟩) hlt6).trans c6
  have k2 : ∀ o o', ((w6.alloc o).alloc o').cell? ⟨nb, 0, none⟩ = some (.int .i64 n) := fun o o' => (((Below.refl _ (w6.alloc o)).alloc (Nat.le_refl _) o').cell (p := ⟨nb, 0, none⟩) (by show nb < (w6.alloc o).heap.size; simp; omega)).trans (k1 o)
  have k3 : ∀ o o' o2, (((w6.alloc o).alloc o').alloc o2).cell? ⟨nb, 0, none⟩ = some (.int .i64 n) := fun o o' o2 => (((Below.refl _ ((w6.alloc o).alloc o')).alloc (Nat.le_refl _) o2).cell (p := ⟨nb, 0, none⟩) (by show nb < ((w6.alloc o).alloc o').heap.size; simp; omega)).trans (k2 o o')
  have HNBE := Lib.hid hnb
  clear hnb
  have hq : Hid (∀ (W : World), Below (ob + 1) w6 W → ∀ sb jb xb : Nat, Box W sb 0 → Box W jb n → Box W xb n → sb ≠ jb → sb ≠ xb → jb ≠ xb → ob < sb → ob < jb → ob < xb → Queue ⟨N + 1, N + 1 + 1, nb, ob, sb, jb, xb, g⟩ n D (wf0 zs) (fun _ => 0) 0 n n W.drew ∧ Below (ob + 1) w6 W.drew) := Lib.hid (fun W hb sb jb xb b1 b2 b3 d1 d2 d3 e1 e2 e3 =>
    ⟨(queue_start HW6.out HA6.out HN6.out HOb6.out HRow6.out HNBE.out hnd.out hob4 hb b1 b2 b3 d1 d2 d3 e1 e2 e3).drewN 1, hb.trans ((below_drewN W 1).mono (by have := hb.size; omega))⟩)
  have h3 := Lib.hid (fun x y z => three_boxes w6 x y z (ob + 1) hs6)
  have HOB4 := Lib.hid hob4
  clear hob4
  go_upto_region 4 with fail
  go_cut [7, 8, 9] from 18 (fun v7 v8 v9 W => ∃ sb jb xb : Nat, v7 = .pointer (some ⟨sb, 0, none⟩) ∧ v8 = .pointer (some ⟨jb, 0, none⟩) ∧ v9 = .pointer (some ⟨xb, 0, none⟩) ∧ ob < sb ∧ ob < jb ∧ ob < xb ∧ Queue ⟨N + 1, N + 1 + 1, nb, ob, sb, jb, xb, g⟩ n D (wf0 zs) (fun _ => 0) 0 n n W ∧ Below (ob + 1) w6 W)
  case first =>
    go_region
    all_goals go_wp2_with fail
    all_goals go_meet
    all_goals refine ⟨_, _, _, rfl, rfl, rfl, by omega, by omega, by omega, hq.out _ (h3.out _ _ _).2.2.2 _ _ _ ?_ ?_ ?_ (by omega) (by omega) (by omega) (by omega) (by omega) (by omega)⟩
    all_goals first
      | exact (h3.out _ _ _).1
      | exact (h3.out _ _ _).2.1
      | exact (h3.out _ _ _).2.2.1
  case rest =>
    obtain ⟨sb, jb, xb, rfl, rfl, rfl, e1, e2, e3, hQ, hB⟩ := hcut
    have HQ := Lib.hid hQ
    have HBW := Lib.hid hB
    clear hQ hB
    obtain ⟨d, hJS⟩ := JS.start (ab := fun _ => 0) (wf := wf0 zs) (by rw [HN.out]; exact h2) (fun z hz => (HPOS.out z hz).1) (by rw [HN.out]; exact HBLK.out) (fun i _ => rfl)
    rw [HN.out] at hJS
    have HJS := Lib.hid hJS
    clear hJS
    have hbase : Hid (Below N w wc) := Lib.hid (HB6.out.trans (HBW.out.mono (by have := HNBE.out; have := hnd.out; omega)))
    have hres : Hid (ArrD 79 wc N 515 (fun _ => 0)) := Lib.hid ((HBW.out.block N (by have := HNBE.out; have := hnd.out; omega)).trans HR6.out)
    have he : ∀ args w, (callFunc 67 args).run Tryd.prog w = .ok (.enter 67 args) w := enters_of Tryd.func67 (by kernel_rfl) rfl
    have hT : Hid (sumN wt (ini zs) ≤ 1099511627776 * 258) := Lib.hid (by
      have := sumN_le (f := wt) (l := ini zs) (c := 1099511627776) (fun t ht => by
        obtain ⟨h3, h4⟩ := ini_mem ht
        have h5 := (HPOS.out (zs.getD t.2 0) (by rw [List.getD_eq_getElem?_getD, List.getElem?_eq_getElem h3]; exact List.getElem_mem h3)).2
        show t.1 ≤ _
        omega)
      rw [ini_len, HN.out] at this
      exact Nat.le_trans this (Nat.mul_le_mul_left _ hz))
    have hne : Hid (N < nb ∧ nb < ob) := Lib.hid (by have := HNBE.out; have := hnd.out; have := HOB4.out; omega)
    go_wp2_with fail
    go_loopw [11, 12] (fun _ _ wr => ∃ (S J K : Nat) (wf ab : Row), JS zs D wf ab d S J K ∧ Queue ⟨N + 1, N + 1 + 1, nb, ob, sb, jb, xb, g⟩ n D wf ab S J K wr ∧ Below N w wr ∧ ArrD 79 wr N 515 (fun _ => 0)) (fun _ _ wr => 2 * n - boxN wr xb)
    case atStart => exact ⟨0, n, n, _, _, HJS.out, HQ.out, hbase.out, hres.out⟩
    case round =>
      obtain ⟨S, J, K, wf, ab, hJ, hQ, hB, hR⟩ := hrel
      have HJ := Lib.hid hJ
      have HQ1 := Lib.hid hQ
      have HB1 := Lib.hid hB
      have HR1 := Lib.hid hR
      have hKb : K + 1 ≤ 2 * n := by have := hJ.hK; rw [HN.out] at this; exact this
      obtain ⟨cx, fx⟩ := hQ.hx.cell
      obtain ⟨cn, fn⟩ := hQ.hn.cell
      simp only at cx fx cn fn
      clear hJ hQ hB hR
      by_cases hK : K + 1 < 2 * n
      · have hK2 : (K : Int) < 2 * (n : Int) - 1 := by omega
        have hJm := HJ.out
        have hSn := hJm.hS
        have hnJ := hJm.hJ
        have hJK := hJm.hJK
        have hcnt := hJm.cnt
        rw [HN.out] at hSn hnJ hcnt
        have hrng : Hid (Rng n D) := Lib.hid (by have := hJm.rng; rw [HN.out] at this; exact this)
        clear hJm
        go_wp2_with fail
        refine (least_any (p := ⟨N + 1, N + 1 + 1, nb, ob, sb, jb, xb, g⟩) HQ1.out hz hSn hJK (by omega) hrng.out (fun e => by omega)).mono ?_
        rintro e w1 ⟨ta, rfl, htook⟩
        obtain ⟨S1, J1, hm1, hQ2, ht1⟩ := htook.math
        obtain ⟨xa, rfl, hx1, hx2, hx3, hx4, hx5, hx6, hx7, hx8⟩ := pick_took hSn hJK (fun e => by omega) hrng.out hnJ HJ.out.pos hm1
        have HM1 := Lib.hid hm1
        have HQ2 := Lib.hid hQ2
        have HT1 := Lib.hid ht1
        clear htook hm1 hQ2 ht1 hx2 hx8
        go_wp2_with fail
        refine (least_any (p := ⟨N + 1, N + 1 + 1, nb, ob, sb, jb, xb, g⟩) HQ2.out hz hx3 hx4 (by omega) hrng.out (fun e => by omega)).mono ?_
        rintro e w2 ⟨tb, rfl, htook⟩
        obtain ⟨S2, J2, hm2, hQ3, ht2⟩ := htook.math
        obtain ⟨x, y, ex, ey, hxK, hyK, hxy, hsum, hJS2⟩ := JS.step HJ.out (by rw [HN.out]; exact hK) (by rw [HN.out]; exact HM1.out) (by rw [HN.out]; exact hm2)
        obtain rfl : xa = x := by omega
        subst ey
        have hwx := HJ.out.pos _ hxK
        have hwy := HJ.out.pos _ hyK
        obtain ⟨c1, f1⟩ := hQ3.hW.cell (show xa < 515 by omega)
        obtain ⟨c2, f2⟩ := hQ3.hW.cell (show y < 515 by omega)
        obtain ⟨c3, f3⟩ := hQ3.hW.cell (show K < 515 by omega)
        obtain ⟨c4, f4⟩ := hQ3.hx.cell
        simp only at c1 f1 c2 f2 c3 f3 c4 f4
        obtain ⟨X, hX⟩ : ∃ X, wf xa = X := ⟨_, rfl⟩
        obtain ⟨Y, hY⟩ : ∃ Y, wf y = Y := ⟨_, rfl⟩
        rw [hX] at c1 hwx hsum hJS2
        rw [hY] at c2 hwy hsum hJS2
        have hXY : X + Y ≤ 300000000000000 := by have := hT.out; omega
        have hX5 : (xa : Int) < 515 := by omega
        have hY5 : (y : Int) < 515 := by omega
        have hK5 : (K : Int) < 515 := by omega
        have HJS2 := Lib.hid hJS2
        have HQ3 := Lib.hid hQ3
        have HT2 := Lib.hid ht2
        have HNE := Lib.hid hxy
        clear htook hm2 hQ3 ht2 hJS2 hX hY hsum ex hxy
        go_wp2_with fail
        go_region
        have hQ9 := (HQ3.out.weight (i := K) (by omega) (X + Y)).drewN 1
        have ht9 : Touch (· = N + 1) w2 ((w2.setCell ⟨N + 1, K, none⟩ (.int .i64 (X + Y))).drew) := (touch_cell (Touch.refl _ w2)).drew
        change Queue _ _ _ _ _ _ _ _ ((w2.setCell ⟨N + 1, K, none⟩ (.int .i64 (X + Y))).drew) at hQ9
        generalize (w2.setCell ⟨N + 1, K, none⟩ (.int .i64 (X + Y))).drew = w9 at *
        obtain ⟨c5, f5⟩ := hQ9.hx.cell
        obtain ⟨c6, f6⟩ := hQ9.hA.cell (show xa < 515 by omega)
        obtain ⟨c7, f7⟩ := hQ9.hA.cell (show y < 515 by omega)
        obtain ⟨c8, f8⟩ := (hQ9.above (i := xa) (by omega) K).hA.cell (show y < 515 by omega)
        simp only at c5 f5 c6 f6 c7 f7
        change (w9.setCell ⟨N + 1 + 1, xa, none⟩ (.int .i64 K)).cell? ⟨N + 1 + 1, y, none⟩ = _ at c8
        change (w9.setCell ⟨N + 1 + 1, xa, none⟩ (.int .i64 K)).frozen? ⟨N + 1 + 1, y, none⟩ = _ at f8
        generalize (fun k => if k = xa then (K : Int) else ab k) y = V8 at c8
        have c9 := (hQ9.above (i := xa) (by omega) K).hx.cell.1
        change (w9.setCell ⟨N + 1 + 1, xa, none⟩ (.int .i64 K)).cell? ⟨xb, 0, none⟩ = _ at c9
        have HQ9 := Lib.hid hQ9
        have HT9 := Lib.hid ht9
        clear hQ9 ht9 c1 c2 c3 c4 f1 f2 f3 f4
        go_wp2_with fail
        go_region
        have hQ10 := ((HQ9.out.above (i := xa) (by omega) K).above (i := y) (by omega) K).drewN 1
        change Queue _ _ _ _ _ _ _ _ (((w9.setCell ⟨N + 1 + 1, xa, none⟩ (.int .i64 K)).setCell ⟨N + 1 + 1, y, none⟩ (.int .i64 K)).drew) at hQ10
        have ht10 : Touch (· = N + 1 + 1) w9 (((w9.setCell ⟨N + 1 + 1, xa, none⟩ (.int .i64 K)).setCell ⟨N + 1 + 1, y, none⟩ (.int .i64 K)).drew) := (touch_cell (touch_cell (Touch.refl _ w9))).drew
        generalize (((w9.setCell ⟨N + 1 + 1, xa, none⟩ (.int .i64 K)).setCell ⟨N + 1 + 1, y, none⟩ (.int .i64 K)).drew) = w10 at *
        obtain ⟨e5, g5⟩ := hQ10.hx.cell
        simp only at e5 g5
        have HQ10 := Lib.hid hQ10
        have HT10 := Lib.hid ht10
        have hb1 : Hid (boxN wr xb = K) := Lib.hid (by unfold boxN; rw [cx]; simp)
        have hQ11 := HQ10.out.next (K + 1)
        have hK1 : ((K + 1 : Nat) : Int) = (K : Int) + 1 := by omega
        rw [hK1] at hQ11
        change Queue _ _ _ _ _ _ _ _ (w10.setCell ⟨xb, 0, none⟩ (.int .i64 ((K : Int) + 1))) at hQ11
        have hb2 : Hid (boxN (w10.setCell ⟨xb, 0, none⟩ (.int .i64 ((K : Int) + 1))) xb = K + 1) := Lib.hid (by
          have := hQ11.hx.cell.1
          simp only at this
          unfold boxN
          rw [this]
          simp)
        have HQ11 := Lib.hid hQ11
        have htall : Hid (Touch (fun i => N < i) wr (w10.setCell ⟨xb, 0, none⟩ (.int .i64 ((K : Int) + 1)))) := Lib.hid (by
          have n1 := hne.out
          have t1 : Touch (fun i => N < i) wr w1 := HT1.out.mono (fun i hi => by
            rcases hi with e | e
            · have e : i = sb := e
              omega
            · have e : i = jb := e
              omega)
          have t2 : Touch (fun i => N < i) w1 w2 := HT2.out.mono (fun i hi => by
            rcases hi with e | e
            · have e : i = sb := e
              omega
            · have e : i = jb := e
              omega)
          have t3 : Touch (fun i => N < i) w2 w9 := HT9.out.mono (fun i hi => by have e : i = N + 1 := hi; omega)
          have t4 : Touch (fun i => N < i) w9 w10 := HT10.out.mono (fun i hi => by have e : i = N + 1 + 1 := hi; omega)
          exact ((((t1.trans t2 (fun i h => Or.inl h)).trans t3 (fun i h => Or.inl h)).trans t4 (fun i h => Or.inl h))).setCell (p := ⟨xb, 0, none⟩) (Or.inl (by show N < xb; omega)) _)
        clear hQ10 ht10 hK1 hQ11 c5 c6 c7 c8 c9 f5 f6 f7 f8
        go_wp2_with fail
        go_roundw
        case rel => exact ⟨S2, J2, K + 1, _, _, HJS2.out, HQ11.out, HB1.out.trans (htall.out.below (B := N) (by have := HB1.out.size; have := HNN.out; omega) (fun i hi => by have e : N < i := hi; omega)), HR1.out.other htall.out (fun h => Nat.lt_irrefl _ h)⟩
        case measure => rw [hb1.out, hb2.out]; omega
      · have hK2 : ¬ (K : Int) < 2 * (n : Int) - 1 := by omega
        have hc := HQ1.out.hA
        have h0 := HR1.out
        have HJ2 : Hid (JoinP zs ab) := Lib.hid (HJ.out.end_ (by rw [HN.out]; exact h2) (by rw [HN.out]; omega))
        change wr.heap[N + 1 + 1]? = some (.cells (rowA 515 ab) 79 (0, 0)) at hc
        change wr.heap[N]? = some (.cells (rowA 515 (fun _ => 0)) 79 (0, 0)) at h0
        have hi := info515 ab
        have hs0 : (rowA 515 (fun _ => 0)).size = (rowA 515 ab).size := by rw [rowA_size, rowA_size]
        have hall := rowA_cells 515 ab
        have HRA : Hid (rowA 515 ab = rowA 515 ab) := Lib.hid rfl
        generalize hRA : rowA 515 ab = RA at hc hi hs0 hall
        generalize rowA 515 (fun _ => 0) = R0 at h0 hs0
        go_wp2_with (first | (refine wpList_load_row rfl 79 _ rfl (N + 1 + 1) rfl 79 RA (0, 0) _ hc Tryd.underlying79 rfl hi ?_) | (refine wpList_store_row rfl 79 _ _ rfl N RA rfl rfl 79 R0 h0 hi hs0 hall ?_))
        refine bodyPost_ret (v := .agg RA) (results_cell_row rfl _ _ N 79 RA (0, 0) _ rfl (setRow_heap wr _ R0 RA 79 _ h0) Tryd.underlying79 rfl hi) rfl ⟨ab, by rw [hRA], HJ2.out, ?_⟩
        rw [HNN.out]
        exact below_setRow HB1.out (Nat.le_refl _) _
end Go.Proofs.YtmlcdfimcabgkaaDoor

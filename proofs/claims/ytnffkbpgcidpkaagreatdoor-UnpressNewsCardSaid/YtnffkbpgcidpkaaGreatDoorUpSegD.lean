/-
  MERGED by seg.py out of: SplD SplE Ints Cells Build3 SplF SplG Open BitsL.
-/
import Derived.Test.YtnffkbpgcidpkaaGreatDoorUpSegC
import Derived.Laws.OwnMore
import Derived.Laws.AppendOwnNone
import Derived.StillTailTactics
import Derived.WalkKit
import Derived.ProofKit
import Derived.OpenShut
import Derived.ShutString
import Derived.ChangeOld
import Derived.Below
import Derived.Lib.Hide
import Derived.Lib.SmallJoins
import Derived.Deep.Slices
namespace Go.Proofs.YtnffkbpgcidpkaaGreatDoor
open Go.RowKit RleM SplM
set_option linter.unusedVariables false
set_option linter.unusedSimpArgs false
theorem results_cell_slotP {P : Program} {fn : Func} {p q : Tmp} {ty : TypeId} (h : fn.results = #[.cell p ty, .tmp q]) (tmps : Array Value) (w : World) (g : Nat) (cs : Array Value) (t : TypeId) (d : TypeDesc) (e : Value)
    (hp : tmps.getD p undef = .pointer (some ⟨g, 0, none⟩)) (hq : tmps.getD q undef = e) (hg : w.heap[g]? = some (.cells cs t (0, 0))) (hu : P.underlying ty = some d) (hd : (match d with | .struct _ | .array _ _ => true | _ => false) = true) (hi : (P.info? ty).map (·.size) = some cs.size) :
    (results fn tmps).run P w = .ok (.tuple #[.agg cs, e]) w := by
  have hp' : tmps[p]?.getD undef = .pointer (some ⟨g, 0, none⟩) := by simpa using hp
  have hq' : tmps[q]?.getD undef = e := by simpa using hq
  simp [results, h, hp', hq', asAddr, run_loadVar_row w g t ty cs (0, 0) d hg hu hd hi]
theorem blk0_one : blk0.all (·.oneCell') = true := by simp [blk0, Value.oneCell']
theorem blkV_one (blk : List Pc) : (blkV blk).all (·.oneCell') = true := by simp [blkV, Value.oneCell']
section
variable {B t pb sb room : Nat} {w w' : World} {c : UInt8} {n : Nat} {blk : List Pc} {bv : Value} {tp : Option Nat}
end
end Go.Proofs.YtnffkbpgcidpkaaGreatDoor
namespace Go.Proofs.YtnffkbpgcidpkaaGreatDoor
open Go.RowKit RleM SplM
set_option linter.unusedVariables false
set_option linter.unusedSimpArgs false
theorem SumT.not {w : World} {b : Nat} {X : BitVec 32} {tp : Option Nat} (h : SumT w b X tp) {r : Nat} {Z : Array Value} {T : TypeId} (hz : w.heap[r]? = some (.cells Z T (0, 0))) (h0 : ∀ v, Z[0]? ≠ some (.int .u32 v)) : ∀ k, tp = some k → k ≠ r := fun k hk e => by
  rw [hk] at h
  have hc := h.2.1 0 (by omega)
  rw [e, cell_of_row _ _ _ _ _ _ hz] at hc
  exact h0 _ hc
theorem blk0_str (v : Int) : blk0[0]? ≠ some (.int .u32 v) := by simp [blk0]
theorem blkV_str (blk : List Pc) (v : Int) : (blkV blk)[0]? ≠ some (.int .u32 v) := by simp [blkV]
section
variable {B t pb sb room : Nat} {w w' wq w4 : World} {c c0 : UInt8} {n n0 : Nat} {blk blk1 : List Pc} {bv : Value} {tp : Option Nat}
end
end Go.Proofs.YtnffkbpgcidpkaaGreatDoor
namespace Go.Proofs.YtnffkbpgcidpkaaGreatDoor
open Go.RowKit
set_option linter.unusedVariables false
theorem drewN_add (w : World) (m n : Nat) : (w.drewN m).drewN n = w.drewN (m + n) := by simp [World.drewN, Nat.add_assoc]
theorem below_drewN (w : World) (n : Nat) : Below w.heap.size w (w.drewN n) := ⟨rfl, rfl, rfl, Nat.le_refl _, fun _ _ => rfl⟩
/-- v is a row of the numbers zs. -/
def IsInts (w : World) (v : Value) (zs : List Int) : Prop := ∃ a cap, v = .slice a zs.length cap ∧ ∀ i x, zs[i]? = some x → ∃ b off, a = some ⟨b, off, none⟩ ∧ w.cell? ⟨b, off + i, none⟩ = some (.int .i64 x)
theorem cell_lt {w : World} {p : Addr} {v : Value} (h : w.cell? p = some v) : p.block < w.heap.size := by
  by_cases hlt : p.block < w.heap.size
  · exact hlt
  · exfalso
    unfold World.cell? at h
    rw [Array.getElem?_eq_none (by omega)] at h
    cases h
theorem IsInts.below {w w' : World} {v : Value} {zs : List Int} (h : IsInts w v zs) (hb : Below w.heap.size w w') : IsInts w' v zs := by
  obtain ⟨a, cap, hv, hc⟩ := h
  refine ⟨a, cap, hv, fun i x hx => ?_⟩
  obtain ⟨b, off, ha, hcell⟩ := hc i x hx
  exact ⟨b, off, ha, (hb.cell (cell_lt hcell)).trans hcell⟩
theorem IsInts.nil (w : World) : IsInts w (.slice none 0 0) [] := ⟨none, 0, rfl, fun i x hx => by simp at hx⟩
def iv64 (x : Int) : Value := .int .i64 x
theorem ints_of_row {w : World} {g N cap : Nat} {zs : List Int} {rest : List Value} {t : TypeId} (h : w.heap[g]? = some (.cells (zs.map iv64 ++ rest).toArray t (0, 0))) (hN : N = zs.length) : IsInts w (.slice (some ⟨g, 0, none⟩) N cap) zs := by
  subst hN
  refine ⟨_, cap, rfl, fun i x hx => ⟨g, 0, rfl, ?_⟩⟩
  have hi := (List.getElem?_eq_some_iff.1 hx).1
  rw [cell_of_row _ _ _ _ _ _ h, Nat.zero_add, List.getElem?_toArray, List.getElem?_append_left (by simpa using hi), List.getElem?_map, hx]
  rfl
theorem set_row (n k : Nat) (zs : List Int) (x : Int) (hk : k < n) (hz : zs.length = k) : ((zs.map iv64 ++ List.replicate (n - k) (iv64 0)).toArray).setIfInBounds k (.int .i64 x) = ((zs ++ [x]).map iv64 ++ List.replicate (n - (k + 1)) (iv64 0)).toArray := by
  apply Array.toList_inj.1
  rw [Array.toList_setIfInBounds]
  have e : n - k = (n - (k + 1)) + 1 := by omega
  show (zs.map iv64 ++ List.replicate (n - k) (iv64 0)).set k (.int .i64 x) = (zs ++ [x]).map iv64 ++ List.replicate (n - (k + 1)) (iv64 0)
  rw [List.set_append_right _ _ (by simp [hz]), e, List.replicate_succ]
  simp [hz, iv64]
theorem made_row (n : Nat) : madeCells #[Value.int .i64 0] n = (([] : List Int).map iv64 ++ List.replicate (n - 0) (iv64 0)).toArray := by
  apply Array.toList_inj.1
  rw [toList_madeCells_one]
  rfl
set_option maxHeartbeats 1000000 in
theorem make_ints (n : Nat) (hn : n ≤ 1000000) (W : World) : (Instr.makeSlice 83 (.int .i64 (n : Int)) (.int .i64 (n : Int))).run Tryz.prog W = .ok (.slice (some ⟨W.heap.size, 0, none⟩) n n) (W.alloc (.cells (madeCells #[Value.int .i64 0] n) 3)) := by
  obtain ⟨i0, hi, hz0, hz1, hz2⟩ := info_parts (show (Tryz.prog.info? 3).map (fun i => (i.zero, i.size, i.bytes)) = some (some (.int .i64 0), 1, 8) by kernel_rfl)
  have := run_make (P := Tryz.prog) W 83 3 i0 (.int .i64 0) Tryz.underlying83 hi hz0 .i64 .i64 (n : Int) (n : Int) (by omega) (by omega) (by rw [hz2]; omega) (by omega)
  rw [hz1] at this
  simpa [Value.cells] using this
theorem IsInts.cell {w : World} {v : Value} {zs : List Int} (h : IsInts w v zs) {k : Nat} (hk : k < zs.length) : ∃ b off cap, v = .slice (some ⟨b, off, none⟩) zs.length cap ∧ w.cell? ⟨b, off + k, none⟩ = some (.int .i64 (zs.getD k 0)) := by
  obtain ⟨a, cap, rfl, hc⟩ := h
  obtain ⟨b, off, rfl, hcell⟩ := hc k zs[k] (List.getElem?_eq_getElem hk)
  refine ⟨b, off, cap, rfl, ?_⟩
  rw [hcell, List.getD_eq_getElem?_getD, List.getElem?_eq_getElem hk]
  rfl
theorem ints_of_own {w : World} {base e n : Nat} {v : Value} {zs : List Int} (h : w.ownsRow base e 1 v n (zs.map iv64)) : IsInts w v zs := by
  have hl : zs.length = n := by simpa using h.1
  rcases h.2 with ⟨rfl, h0⟩ | ⟨g, cap, cur, rfl, _, hg, _⟩
  · obtain rfl : zs = [] := List.eq_nil_of_length_eq_zero (by omega)
    exact IsInts.nil w
  · subst hl
    refine ⟨_, cap, rfl, fun i x hx => ⟨g, 0, rfl, ?_⟩⟩
    have hi := (List.getElem?_eq_some_iff.1 hx).1
    rw [Nat.zero_add, h.cellAt i (by omega)]
    rw [List.getElem?_map, hx]
    rfl
theorem info_int : (Tryz.prog.info? 3).map (fun i => (i.zero, i.size, i.bytes)) = some (some (.int .i64 0), 1, 8) := by kernel_rfl
theorem ints_lit (w : World) (a b c : Int) : IsInts (w.alloc (.cells #[.int .i64 a, .int .i64 b, .int .i64 c] 3)) (.slice (some ⟨w.heap.size, 0, none⟩) 3 3) [a, b, c] :=
  ints_of_row (zs := [a, b, c]) (rest := []) (heap_alloc_new w _) rfl
theorem ints_in {w : World} {a : Option Addr} {len cap : Nat} {zs : List Int} (h : IsRow .i64 w a len cap zs) : IsInts w (.slice a len cap) (zs.take len) ∧ (zs.take len).length = len := by
  rcases h with ⟨rfl, rfl, rfl, rfl⟩ | ⟨x, rfl, hl, _, hz, hc, _⟩
  · exact ⟨IsInts.nil w, rfl⟩
  · have hlen : (zs.take len).length = len := by rw [List.length_take]; omega
    refine ⟨⟨some x, cap, by rw [hlen], fun i y hy => ?_⟩, hlen⟩
    have hi := (List.getElem?_eq_some_iff.1 hy).1
    rw [List.getElem?_take] at hy
    rw [hlen] at hi
    rw [if_pos hi] at hy
    have hcell := hc i (by omega)
    obtain ⟨b, off, spot⟩ := x
    have hspot : spot = none := by simpa [Addr.add] using World.cell?_spot (hc 0 (by omega))
    subst hspot
    refine ⟨b, off, rfl, ?_⟩
    rw [Addr.add_lit] at hcell
    rw [hcell, List.getD_eq_getElem?_getD, hy]
    rfl
theorem isRow_len {w : World} {a : Option Addr} {len cap : Nat} {zs : List Int} (h : IsRow .i64 w a len cap zs) : len ≤ cap ∧ cap ≤ 9223372036854775807 := by
  rcases h with ⟨rfl, rfl, rfl, rfl⟩ | ⟨x, rfl, hl, hc, _⟩
  · exact ⟨Nat.le_refl _, by omega⟩
  · simp only [maxLen] at hc
    exact ⟨hl, by omega⟩
/-! ### A row of the call's own -/
/-- v is a row of the numbers zs, in a block of the call's own (from base on). -/
def OwnI (w : World) (base : Nat) (v : Value) (zs : List Int) : Prop := w.ownsRow base 3 1 v zs.length (zs.map iv64)
theorem OwnI.ints {w : World} {base : Nat} {v : Value} {zs : List Int} (h : OwnI w base v zs) : IsInts w v zs := ints_of_own h
theorem OwnI.nil (w : World) (base : Nat) : OwnI w base (.slice none 0 0) [] := World.ownsRow_nil _ _ _ _
theorem OwnI.slice {w : World} {base : Nat} {v : Value} {zs : List Int} (h : OwnI w base v zs) : ∃ a cap, v = .slice a zs.length cap := slice_of_own h
theorem OwnI.alloc {w : World} {base : Nat} {v : Value} {zs : List Int} (h : OwnI w base v zs) (o : Obj) : OwnI (w.alloc o) base v zs := World.ownsRow.alloc h o
theorem OwnI.drewN {w : World} {base : Nat} {v : Value} {zs : List Int} (h : OwnI w base v zs) (n : Nat) : OwnI (w.drewN n) base v zs := h
theorem OwnI.below {w w' : World} {base : Nat} {v : Value} {zs : List Int} (h : OwnI w base v zs) (hb : Below w.heap.size w w') : OwnI w' base v zs :=
  ownsRow_other h fun k hk => hb.block k (World.ownsRow.lt h k hk).2
set_option maxHeartbeats 400000 in
theorem push_int {ops : Array Oper} {rest : List Oper} {o : Oper} {a : Act} {Q : Exit → Act → World → Prop} (W : World) (hgd : o.guard = none) (s x : Operand)
    (ho : o.op = .call { callee := .builtin .append, args := #[s, x], argTypes := #[83, 83] })
    (base : Nat) (v : Value) (zs : List Int) (c : Int) (hown : OwnI W base v zs) (hs : a.eval s = v) (hx : a.eval x = .slice (some ⟨W.heap.size, 0, none⟩) 1 1)
    (hlen : zs.length + 1 ≤ 17592186044416) (hb : base ≤ W.heap.size)
    (h : ∀ v' w', OwnI w' base v' (zs ++ [c]) → Below base W w' → wpList Tryz.prog ops Q rest (a.put o.dst v') w') :
    wpList Tryz.prog ops Q (o :: rest) a (W.alloc (.cells #[.int .i64 c] 3)) := by
  obtain ⟨i0, hi, hz0, hz1, hz2⟩ := info_parts info_int
  refine wpList_append_own _ hgd s x 83 ho base 3 i0 (.int .i64 0) 1 8 Tryz.underlying83 hi hz0 hz1 hz2 rfl (by decide) v zs.length (zs.map iv64) hs (World.ownsRow.alloc hown _) ⟨W.heap.size, 0, none⟩ 1 1 [.int .i64 c] hx rfl ?_ ?_ ?_ ?_ ?_ ?_
  · exact news_new _ _ _ _ rfl
  · intro u hu; simp at hu; subst hu; rfl
  · unfold maxLen; omega
  · omega
  · simp; omega
  · intro v' w' hown' hg _
    refine h v' w' ?_ (Below.grown ((Below.refl base W).alloc hb _) hg (by simp; omega) (fun j hj => (World.ownsRow.lt hown j hj).1))
    unfold OwnI
    rw [List.length_append, List.map_append]
    exact hown'
set_option maxHeartbeats 400000 in
theorem push_own {ops : Array Oper} {rest : List Oper} {o : Oper} {a : Act} {Q : Exit → Act → World → Prop} (W : World) (hgd : o.guard = none) (s x : Operand)
    (ho : o.op = .call { callee := .builtin .append, args := #[s, x], argTypes := #[83, 83] })
    (base : Nat) (v : Value) (zs : List Int) (base2 : Nat) (u : Value) (ys : List Int) (hown : OwnI W base v zs) (hsrc : OwnI W base2 u ys) (hs : a.eval s = v) (hx : a.eval x = u)
    (hlen : zs.length + ys.length ≤ 17592186044416) (hb : base ≤ W.heap.size)
    (h : ∀ v' w', OwnI w' base v' (zs ++ ys) → Below base W w' → wpList Tryz.prog ops Q rest (a.put o.dst v') w') :
    wpList Tryz.prog ops Q (o :: rest) a W := by
  obtain ⟨i0, hi, hz0, hz1, hz2⟩ := info_parts info_int
  rcases hsrc.2 with ⟨rfl, h0⟩ | ⟨g, cap, cur, rfl, _, hg, hnc, _, _, htake⟩
  · obtain rfl : ys = [] := List.eq_nil_of_length_eq_zero h0
    refine wpList_append_own_none hgd s x 83 ho base 3 i0 1 Tryz.underlying83 hi v zs.length (zs.map iv64) hs hown hx ?_
    have := h v W
    rw [List.append_nil] at this
    exact this hown (Below.refl _ _)
  · refine wpList_append_own _ hgd s x 83 ho base 3 i0 (.int .i64 0) 1 8 Tryz.underlying83 hi hz0 hz1 hz2 rfl (by decide) v zs.length (zs.map iv64) hs hown ⟨g, 0, none⟩ ys.length cap (ys.map iv64) hx (by simp) ?_ ?_ ?_ ?_ ?_ ?_
    · exact World.ownsRow.cells hsrc rfl
    · intro u hu; obtain ⟨y, _, rfl⟩ := List.mem_map.1 hu; rfl
    · unfold maxLen; omega
    · omega
    · exact hb
    · intro v' w' hown' hgr _
      refine h v' w' ?_ (Below.grown (Below.refl base W) hgr hb (fun j hj => (World.ownsRow.lt hown j hj).1))
      unfold OwnI
      rw [List.length_append, List.map_append]
      exact hown'

/-! ### A whole block of numbers -/
/-- Block g is the numbers zs. -/
def RowI (w : World) (g : Nat) (zs : List Int) : Prop := w.heap[g]? = some (.cells (zs.map iv64).toArray 3 (0, 0))
theorem RowI.lt {w : World} {g : Nat} {zs : List Int} (h : RowI w g zs) : g < w.heap.size := (Array.getElem?_eq_some_iff.1 h).1
theorem RowI.below {w w' : World} {g : Nat} {zs : List Int} (h : RowI w g zs) (hb : Below w.heap.size w w') : RowI w' g zs := (hb.block g h.lt).trans h
theorem RowI.other {w w' : World} {g : Nat} {zs : List Int} (h : RowI w g zs) {S : Nat → Prop} (ht : Touch S w w') (hS : ¬ S g) : RowI w' g zs := (ht.block g h.lt hS).trans h
theorem RowI.ints {w : World} {g : Nat} {zs : List Int} (h : RowI w g zs) (N cap : Nat) (hN : N = zs.length) : IsInts w (.slice (some ⟨g, 0, none⟩) N cap) zs :=
  ints_of_row (rest := []) (by rw [List.append_nil]; exact h) hN
theorem RowI.made (w : World) (n : Nat) : RowI (w.alloc (.cells (madeCells #[Value.int .i64 0] n) 3)) w.heap.size (List.replicate n 0) := by
  have := made_row n
  simp only [List.map_nil, List.nil_append, Nat.sub_zero] at this
  unfold RowI
  rw [List.map_replicate, ← this]
  exact heap_alloc_new _ _
theorem RowI.cell {w : World} {g : Nat} {zs : List Int} (h : RowI w g zs) {i : Nat} (hi : i < zs.length) : w.cell? ⟨g, i, none⟩ = some (.int .i64 (zs.getD i 0)) ∧ w.frozen? ⟨g, i, none⟩ = false ∧
    ∀ x : Int, RowI (w.setCell ⟨g, i, none⟩ (.int .i64 x)) g (zs.set i x) := by
  refine ⟨?_, frozen_of_row _ _ _ _ _ h, fun x => ?_⟩
  · rw [cell_of_row _ _ _ _ _ _ h, List.getElem?_toArray, List.getElem?_map, List.getD_eq_getElem?_getD, List.getElem?_eq_getElem hi]
    rfl
  · have := heap_setCell_same w g i _ _ (.int .i64 x) h
    unfold RowI
    rw [this]
    congr 2
    apply Array.toList_inj.1
    rw [Array.toList_setIfInBounds, List.map_set]
    rfl
theorem set_next (l : List Int) (m : Nat) (x : Int) : (l ++ List.replicate (m + 1) 0).set l.length x = l ++ [x] ++ List.replicate m 0 := by
  rw [List.set_append_right _ _ (Nat.le_refl _), Nat.sub_self, List.replicate_succ]
  simp

/-! ### 'append', and which blocks it leaves alone -/
theorem wpList_append_own2 {P : Program} {w : World} {ops : Array Oper} {rest : List Oper} {o : Oper} {a : Act} {Q : Exit → Act → World → Prop} (hgd : o.guard = none) (s x : Operand) (t : TypeId)
    (ho : o.op = .call { callee := .builtin .append, args := #[s, x], argTypes := #[t, t] })
    (base : Nat) (e : TypeId) (i : TypeInfo) (z : Value) (size bytes : Nat) (ht : P.underlying t = some (.slice e)) (hi : P.info? e = some i) (hz : i.zero = some z)
    (hsize : i.size = size) (hby : i.bytes = bytes) (hzs : z.cells.size = size) (hsz : 0 < size)
    (v : Value) (n : Nat) (xs : List Value) (hown : w.ownsRow base e size v n xs) (hs : a.eval s = v)
    (ad : Addr) (m c : Nat) (news : List Value) (hx : a.eval x = .slice (some ad) m c) (hl : news.length = m * size) (hnews : ∀ j u, news[j]? = some u → w.cell? (ad.add j) = some u) (h1 : ∀ u ∈ news, u.oneCell' = true)
    (h63 : n + m ≤ maxLen) (hbytes : (n + m) * bytes ≤ 140737488355328) (hbase : base ≤ w.heap.size)
    (h : ∀ v' w', w'.ownsRow base e size v' (n + m) (xs ++ news) → w.grownBy w' v.ownBlock → (∀ k, v'.ownBlock = some k → v.ownBlock = some k ∨ w.heap.size ≤ k) → wpList P ops Q rest (a.put o.dst v') w') : wpList P ops Q (o :: rest) a w :=
  wpList_plain hgd fun _ hK => by
    obtain ⟨v', w', hr, h2, h3, h4⟩ := run_append_own2 (P := P) w base t o.type e i z size bytes ht hi hz hsize hby hzs hsz v n xs hown ad m c news hl hnews h1 h63 hbytes hbase
    unfold Oper.wp execOp
    simp only [ho, resolve, invoke, builtin, Sem.run_bind, Sem.run_pure, Result.andThen_ok, List.map_toArray, List.map_cons, List.map_nil, hs, hx, hr]
    exact hK _ _ (h v' w' h2 h3 h4)
theorem alloc_old {w : World} {o : Obj} {k : Nat} (hk : k < w.heap.size) : (w.alloc o).heap[k]? = w.heap[k]? := Below.heap_alloc w o k hk
set_option maxHeartbeats 400000 in
theorem push_int2 {ops : Array Oper} {rest : List Oper} {o : Oper} {a : Act} {Q : Exit → Act → World → Prop} (W : World) (hgd : o.guard = none) (s x : Operand)
    (ho : o.op = .call { callee := .builtin .append, args := #[s, x], argTypes := #[83, 83] })
    (base : Nat) (v : Value) (zs : List Int) (c : Int) (hown : OwnI W base v zs) (hs : a.eval s = v) (hx : a.eval x = .slice (some ⟨W.heap.size, 0, none⟩) 1 1)
    (hlen : zs.length + 1 ≤ 17592186044416) (hb : base ≤ W.heap.size)
    (h : ∀ v' w', OwnI w' base v' (zs ++ [c]) → Below base W w' → (∀ k, k < W.heap.size → v.ownBlock ≠ some k → w'.heap[k]? = W.heap[k]?) → (∀ k, v'.ownBlock = some k → v.ownBlock = some k ∨ W.heap.size ≤ k) →
      wpList Tryz.prog ops Q rest (a.put o.dst v') w') :
    wpList Tryz.prog ops Q (o :: rest) a (W.alloc (.cells #[.int .i64 c] 3)) := by
  obtain ⟨i0, hi, hz0, hz1, hz2⟩ := info_parts info_int
  refine wpList_append_own2 hgd s x 83 ho base 3 i0 (.int .i64 0) 1 8 Tryz.underlying83 hi hz0 hz1 hz2 rfl (by decide) v zs.length (zs.map iv64) (World.ownsRow.alloc hown _) hs ⟨W.heap.size, 0, none⟩ 1 1 [.int .i64 c] hx rfl ?_ ?_ ?_ ?_ ?_ ?_
  · exact news_new _ _ _ _ rfl
  · intro u hu; simp at hu; subst hu; rfl
  · unfold maxLen; omega
  · omega
  · simp; omega
  · intro v' w' hown' hg hv
    refine h v' w' ?_ (Below.grown ((Below.refl base W).alloc hb _) hg (by simp; omega) (fun j hj => (World.ownsRow.lt hown j hj).1)) (fun k hk hne => (hg.block k (by simp; omega) (fun e => hne e.symm)).trans (alloc_old hk)) (fun k hk => (hv k hk).imp id (fun h => by simp at h; omega))
    unfold OwnI
    rw [List.length_append, List.map_append]
    exact hown'
theorem OwnI.lower {w : World} {base b2 : Nat} {v : Value} {zs : List Int} (h : OwnI w base v zs) (hb : b2 ≤ base) : OwnI w b2 v zs := by
  refine ⟨h.1, ?_⟩
  rcases h.2 with h2 | ⟨g, cap, cur, rfl, hb2, r⟩
  · exact Or.inl h2
  · exact Or.inr ⟨g, cap, cur, rfl, Nat.le_trans hb hb2, r⟩
theorem OwnI.setRow {w : World} {base : Nat} {v : Value} {zs : List Int} (h : OwnI w base v zs) (g : Nat) (cs : Array Value) (hg : g < base) : OwnI (w.setRow g cs) base v zs :=
  ownsRow_other h fun k hk => setRow_other _ _ k _ (by have := (World.ownsRow.lt h k hk).1; omega)
theorem OwnI.same {w w' : World} {base : Nat} {v : Value} {zs : List Int} (h : OwnI w base v zs) (he : ∀ k, v.ownBlock = some k → w'.heap[k]? = w.heap[k]?) : OwnI w' base v zs := ownsRow_other h he
theorem OwnI.lt {w : World} {base : Nat} {v : Value} {zs : List Int} (h : OwnI w base v zs) : ∀ k, v.ownBlock = some k → base ≤ k ∧ k < w.heap.size := World.ownsRow.lt h
theorem drop_cons (zs : List Int) (k : Nat) (h : k < zs.length) : zs.drop k = zs.getD k 0 :: zs.drop (k + 1) := by
  rw [List.drop_eq_getElem_cons h, List.getD_eq_getElem?_getD, List.getElem?_eq_getElem h]
  rfl
theorem OwnI.lit (w : World) (base : Nat) (hb : base ≤ w.heap.size) : OwnI (w.alloc (.cells #[] 3)) base (.slice (some ⟨w.heap.size, 0, none⟩) 0 0) [] :=
  World.ownsRow_lit w #[] 0 hb (by decide) rfl
set_option maxHeartbeats 400000 in
/-- 'append' of a row that lies anywhere. -/
theorem push_src {ops : Array Oper} {rest : List Oper} {o : Oper} {a : Act} {Q : Exit → Act → World → Prop} (W : World) (hgd : o.guard = none) (s x : Operand)
    (ho : o.op = .call { callee := .builtin .append, args := #[s, x], argTypes := #[83, 83] })
    (base : Nat) (v : Value) (zs : List Int) (b off m c : Nat) (ys : List Int) (hown : OwnI W base v zs) (hsrc : IsInts W (.slice (some ⟨b, off, none⟩) m c) ys) (hs : a.eval s = v) (hx : a.eval x = .slice (some ⟨b, off, none⟩) m c)
    (hlen : zs.length + ys.length ≤ 17592186044416) (hb : base ≤ W.heap.size)
    (h : ∀ v' w', OwnI w' base v' (zs ++ ys) → Below base W w' → wpList Tryz.prog ops Q rest (a.put o.dst v') w') :
    wpList Tryz.prog ops Q (o :: rest) a W := by
  obtain ⟨i0, hi, hz0, hz1, hz2⟩ := info_parts info_int
  obtain ⟨a1, cap1, he, hc⟩ := hsrc
  simp only [Value.slice.injEq] at he
  obtain ⟨rfl, rfl, rfl⟩ := he
  refine wpList_append_own _ hgd s x 83 ho base 3 i0 (.int .i64 0) 1 8 Tryz.underlying83 hi hz0 hz1 hz2 rfl (by decide) v zs.length (zs.map iv64) hs hown ⟨b, off, none⟩ ys.length c (ys.map iv64) hx (by simp) ?_ ?_ ?_ ?_ ?_ ?_
  · intro j u hu
    rw [List.getElem?_map] at hu
    cases hj : ys[j]? with
    | none => rw [hj] at hu; cases hu
    | some y =>
      rw [hj] at hu
      cases hu
      obtain ⟨b', off', e, hcell⟩ := hc j y hj
      simp only [Option.some.injEq, Addr.mk.injEq, and_true] at e
      obtain ⟨rfl, rfl⟩ := e
      rw [Addr.add_lit]
      exact hcell
  · intro u hu; obtain ⟨y, _, rfl⟩ := List.mem_map.1 hu; rfl
  · unfold maxLen; omega
  · omega
  · exact hb
  · intro v' w' hown' hgr _
    refine h v' w' ?_ (Below.grown (Below.refl base W) hgr hb (fun j hj => (World.ownsRow.lt hown j hj).1))
    unfold OwnI
    rw [List.length_append, List.map_append]
    exact hown'
theorem IsInts.alloc {w : World} {v : Value} {zs : List Int} (h : IsInts w v zs) (o : Obj) : IsInts (w.alloc o) v zs := h.below ((Below.refl _ _).alloc (Nat.le_refl _) _)
/-- A part of a row. -/
theorem IsInts.part {w : World} {b off m c : Nat} {zs : List Int} (h : IsInts w (.slice (some ⟨b, off, none⟩) m c) zs) (i n c2 : Nat) (hn : n ≤ m - i) : IsInts w (.slice (some ⟨b, off + i, none⟩) n c2) ((zs.drop i).take n) := by
  obtain ⟨a, cap, he, hc⟩ := h
  simp only [Value.slice.injEq] at he
  obtain ⟨rfl, rfl, rfl⟩ := he
  refine ⟨_, c2, by rw [List.length_take, List.length_drop, Nat.min_eq_left hn], fun j x hx => ⟨b, off + i, rfl, ?_⟩⟩
  have hj := (List.getElem?_eq_some_iff.1 hx).1
  rw [List.getElem?_take, List.getElem?_drop] at hx
  split at hx
  · obtain ⟨b', off', e, hcell⟩ := hc (i + j) x hx
    simp only [Option.some.injEq, Addr.mk.injEq, and_true] at e
    obtain ⟨rfl, rfl⟩ := e
    rw [Nat.add_assoc]
    exact hcell
  · cases hx
end Go.Proofs.YtnffkbpgcidpkaaGreatDoor
namespace Go.Proofs.YtnffkbpgcidpkaaGreatDoor
open Go.RowKit
set_option linter.unusedVariables false
/-- One place told anew. -/
def upd (F : Nat → Value) (i : Nat) (v : Value) : Nat → Value := fun k => if k = i then v else F k
theorem upd_same (F : Nat → Value) (i : Nat) (v : Value) : upd F i v i = v := if_pos rfl
theorem upd_ne (F : Nat → Value) {i k : Nat} (v : Value) (h : k ≠ i) : upd F i v k = F k := if_neg h
def cellsF (M : Nat) (F : Nat → Value) : Array Value := ((List.range M).map F).toArray
theorem cellsF_get (M : Nat) (F : Nat → Value) {i : Nat} (hi : i < M) : (cellsF M F)[i]? = some (F i) := by
  unfold cellsF
  rw [List.getElem?_toArray, List.getElem?_map, List.getElem?_range hi]
  rfl
theorem cellsF_set (M : Nat) (F : Nat → Value) (i : Nat) (x : Value) : (cellsF M F).setIfInBounds i x = cellsF M (upd F i x) := by
  apply Array.toList_inj.1
  rw [Array.toList_setIfInBounds]
  show ((List.range M).map F).set i x = (List.range M).map (fun k => if k = i then x else F k)
  apply List.ext_getElem
  · simp
  · intro j h1 h2
    rw [List.getElem_set]
    by_cases e : i = j
    · subst e; simp
    · rw [if_neg e]
      have : ¬ j = i := fun h => e h.symm
      simp [this]
theorem wpList_build_one {P : Program} {ops : Array Oper} {rest : List Oper} {o : Oper} {a : Act} {w : World} {Q : Exit → Act → World → Prop} (hg : o.guard = none) (t : TypeId) (n : Nat) (y : Operand) (ho : o.op = .build t #[(n, y)]) (v : Value) (hy : a.eval y = v) (Z : Array Value)
    (hb : P.built t [(n, v)] = some Z) (h : wpList P ops Q rest (a.put o.dst (.agg Z)) w) : wpList P ops Q (o :: rest) a w := by
  subst hy
  refine wpList_build hg t #[(n, y)] ho ?_ ?_
  · simp [hb]
  · simpa [hb] using h
theorem wpList_build_is {P : Program} {ops : Array Oper} {rest : List Oper} {o : Oper} {a : Act} {w : World} {Q : Exit → Act → World → Prop} (hg : o.guard = none) (t : TypeId) (ho : o.op = .build t #[]) (Z : Array Value)
    (hb : P.built t [] = some Z) (h : wpList P ops Q rest (a.put o.dst (.agg Z)) w) : wpList P ops Q (o :: rest) a w := by
  refine wpList_build hg t #[] ho ?_ ?_
  · simp [hb]
  · simpa [hb] using h
end Go.Proofs.YtnffkbpgcidpkaaGreatDoor
namespace Go.Proofs.YtnffkbpgcidpkaaGreatDoor
open Go.RowKit
set_option linter.unusedVariables false
theorem wpList_build_three {P : Program} {ops : Array Oper} {rest : List Oper} {o : Oper} {a : Act} {w : World} {Q : Exit → Act → World → Prop} (hg : o.guard = none) (t : TypeId) (n m k : Nat) (y z x : Operand) (ho : o.op = .build t #[(n, y), (m, z), (k, x)]) (v u r : Value) (hy : a.eval y = v) (hz : a.eval z = u) (hx : a.eval x = r) (Z : Array Value)
    (hb : P.built t [(n, v), (m, u), (k, r)] = some Z) (h : wpList P ops Q rest (a.put o.dst (.agg Z)) w) : wpList P ops Q (o :: rest) a w := by
  subst hy hz hx
  refine wpList_build hg t #[(n, y), (m, z), (k, x)] ho ?_ ?_
  · simp [hb]
  · simpa [hb] using h
end Go.Proofs.YtnffkbpgcidpkaaGreatDoor
namespace Go.Proofs.YtnffkbpgcidpkaaGreatDoor
open Go.RowKit RleM SplM
set_option linter.unusedVariables false
set_option linter.unusedSimpArgs false
def blkL (b : List Pc) : List Value := (blkV b).toList
theorem blkL_len (b : List Pc) : (blkL b).length = 3 := rfl
theorem bks_len : ∀ bs : List (List Pc), (bs.flatMap blkL).length = bs.length * 3
  | [] => rfl
  | b :: bs => by rw [List.flatMap_cons, List.length_append, bks_len bs, blkL_len, List.length_cons]; omega
theorem bks_one (bs : List (List Pc)) : ∀ u ∈ bs.flatMap blkL, u.oneCell' = true := by
  intro u hu
  obtain ⟨b, _, hb⟩ := List.mem_flatMap.1 hu
  simp [blkL, blkV] at hb
  rcases hb with rfl | rfl | rfl <;> rfl
theorem bks_get : ∀ (bs : List (List Pc)) (i : Nat) (b : List Pc) (j : Nat), bs[i]? = some b → j < 3 → (bs.flatMap blkL)[i * 3 + j]? = (blkL b)[j]?
  | [], i, b, j, h, _ => by simp at h
  | x :: xs, 0, b, j, h, hj => by
    simp at h
    subst h
    rw [List.flatMap_cons, List.getElem?_append_left (by rw [blkL_len]; omega), Nat.zero_mul, Nat.zero_add]
  | x :: xs, i + 1, b, j, h, hj => by
    rw [List.flatMap_cons, List.getElem?_append_right (by rw [blkL_len]; omega), blkL_len]
    have := bks_get xs i b j (by simpa using h) hj
    rw [show (i + 1) * 3 + j - 3 = i * 3 + j by omega]
    exact this
section
variable {B t pb sb room : Nat} {w w' : World} {c : UInt8} {n : Nat} {blk : List Pc} {bv : Value} {tp : Option Nat}
end
end Go.Proofs.YtnffkbpgcidpkaaGreatDoor
namespace Go.Proofs.YtnffkbpgcidpkaaGreatDoor
open Go.RowKit RleM SplM
set_option linter.unusedVariables false
set_option linter.unusedSimpArgs false
section
variable {B t pb sb room : Nat} {w w' : World} {c : UInt8} {n : Nat} {blk : List Pc} {bv : Value} {tp : Option Nat}
set_option maxRecDepth 100000 in
set_option maxHeartbeats 4000000 in
theorem room19_any (l u : Int) (w : World) (hl : -9223372036854775808 ≤ l ∧ l ≤ 9223372036854775807) (hu : -9223372036854775808 ≤ u ∧ u ≤ 9223372036854775807) : Calls Tryz.prog 34 #[.int .i64 l, .int .i64 u] w fun e w' => e = .returned (if l < 1 ∨ 9 < l ∨ u < 24 ∨ 100000 < u then .tuple #[.int .i64 0, .int .i64 1] else .tuple #[.int .i64 (l * u - 19), .int .i64 0]) ∧ w' = w := by
  by_cases h1 : l < 1
  · rw [if_pos (Or.inl h1)]
    go_enter Tryz.func34, Tryz.ntmps34
    go_wp2_with fail
    go_ret2
    exact ⟨rfl, rfl⟩
  by_cases h2 : 9 < l
  · rw [if_pos (Or.inr (Or.inl h2))]
    have h2' : l > 9 := h2
    go_enter Tryz.func34, Tryz.ntmps34
    go_wp2_with fail
    go_ret2
    exact ⟨rfl, rfl⟩
  have h2' : ¬ l > 9 := h2
  by_cases h3 : u < 24
  · rw [if_pos (Or.inr (Or.inr (Or.inl h3)))]
    go_enter Tryz.func34, Tryz.ntmps34
    go_wp2_with fail
    go_ret2
    exact ⟨rfl, rfl⟩
  by_cases h4 : 100000 < u
  · rw [if_pos (Or.inr (Or.inr (Or.inr h4)))]
    have h4' : u > 100000 := h4
    go_enter Tryz.func34, Tryz.ntmps34
    go_wp2_with fail
    go_ret2
    exact ⟨rfl, rfl⟩
  have h4' : ¬ u > 100000 := h4
  rw [if_neg (by omega)]
  have hm1 : 0 ≤ l * u := Int.mul_nonneg (by omega) (by omega)
  have hm2 : l * u ≤ 9 * 100000 := Int.mul_le_mul (by omega) (by omega) (by omega) (by omega)
  have hmw : IntKind.i64.wrap (l * u) = l * u := IntWalk.i64_in _ (by omega)
  have hsw : IntKind.i64.wrap (l * u - 19) = l * u - 19 := IntWalk.i64_in _ (by omega)
  clear hl hu
  go_enter Tryz.func34, Tryz.ntmps34
  go_wp2_with fail
  go_ret2
  exact ⟨rfl, rfl⟩
end
end Go.Proofs.YtnffkbpgcidpkaaGreatDoor
namespace Go.Proofs.YtnffkbpgcidpkaaGreatDoor
namespace Opn
open Go.ChangeShapes Go.WideShapes Go.ChangeAt Go.RowKit Go.Deep

/-- What a cell is. -/
inductive Kd where
  | int (k : IntKind)
  | bool
  | str
  | sl (e : TypeId)

section
variable (P : Program)
def joined (f : TypeId → Option (List Kd)) : Nat → List (Nat × TypeId) → Option (List Kd)
  | _, [] => some []
  | at_, (o, t) :: rest =>
    match f t, joined f (at_ + P.cellsOf t) rest with
    | some l, some r => if o = at_ ∧ l.length = P.cellsOf t then some (l ++ r) else none
    | _, _ => none
def whole (t : TypeId) : Option (List Kd) → Option (List Kd)
  | some l => if l.length = P.cellsOf t then some l else none
  | none => none
/-- The kinds of a type's cells, one behind the other. -/
def kinds : Nat → TypeId → Option (List Kd)
  | 0, _ => none
  | n + 1, t =>
    match P.underlying t with
    | some (.int k) => some [.int k]
    | some .bool => some [.bool]
    | some .string => some [.str]
    | some (.slice e) => some [.sl e]
    | some (.struct fs) => whole P t (joined P (kinds n) 0 (fs.toList.map fun f => (f.offset, f.type)))
    | some (.array m e) => whole P t (joined P (kinds n) 0 ((List.range m).map fun i => (i * P.cellsOf e, e)))
    | _ => none
end

theorem whole_some {P : Program} {t : TypeId} {o : Option (List Kd)} {ks : List Kd} (h : whole P t o = some ks) : o = some ks ∧ ks.length = P.cellsOf t := by
  cases o with
  | none => cases h
  | some l =>
    unfold whole at h
    split at h
    · rename_i l' e
      cases e
      split at h
      · rename_i hl
        cases h
        exact ⟨rfl, hl⟩
      · cases h
    · cases h

section
variable {H : Type} {enc : TypeId × Value → H} {P : Program} {w : World} {spare : Nat → Bool}

/-- What is known of a cell of a kind. -/
def CellOk (enc : TypeId × Value → H) (P : Program) (w : World) (spare : Nat → Bool) : Kd → Value → Prop
  | .int k, v => ∃ n, v = .int k n ∧ (Lit.int k n).wf = true
  | .bool, v => ∃ b, v = .bool b
  | .str, v => ∃ s : ByteArray, v = .string s ∧ s.size ≤ maxLen
  | .sl e, v => v = .slice none 0 0 ∨ ∃ (a : Addr) (len cap n : Nat), v = .slice (some a) len cap ∧ len ≤ cap ∧ cap ≤ maxLen ∧
      ∀ i, i < len → ∃ cs x, w.cells? 0 (a.add (i * P.cellsOf e)) (P.cellsOf e) = some cs ∧ DataW.trod enc P w 0 spare true n e cs = some x
def AllOk (enc : TypeId × Value → H) (P : Program) (w : World) (spare : Nat → Bool) : List Kd → List Value → Prop
  | [], [] => True
  | k :: ks, v :: vs => CellOk enc P w spare k v ∧ AllOk enc P w spare ks vs
  | _, _ => False
theorem AllOk.append : ∀ {ks ls : List Kd} {vs us : List Value}, AllOk enc P w spare ks vs → AllOk enc P w spare ls us → AllOk enc P w spare (ks ++ ls) (vs ++ us)
  | [], _, [], _, _, h => h
  | _ :: _, _, _ :: _, _, h, k => ⟨h.1, AllOk.append h.2 k⟩
  | [], _, _ :: _, _, h, _ => h.elim
  | _ :: _, _, [], _, h, _ => h.elim
theorem AllOk.length : ∀ {ks : List Kd} {vs : List Value}, AllOk enc P w spare ks vs → vs.length = ks.length
  | [], [], _ => rfl
  | _ :: _, _ :: _, h => by simpa using AllOk.length h.2
  | [], _ :: _, h => h.elim
  | _ :: _, [], h => h.elim

theorem joined_ok {n : Nat} (ih : ∀ t ks cs x, kinds P n t = some ks → (∃ m, DataW.trod enc P w 0 spare true m t cs = some x) → AllOk enc P w spare ks cs) :
    ∀ (ps : List (Nat × TypeId)) (at_ : Nat) (ks : List Kd) (cs : List Value), joined P (kinds P n) at_ ps = some ks → (∀ p ∈ ps, ∃ m x, DataW.trod enc P w 0 spare true m p.2 ((cs.drop p.1).take (P.cellsOf p.2)) = some x) →
      cs.length = at_ + ks.length → AllOk enc P w spare ks (cs.drop at_)
  | [], at_, ks, cs, h, _, hl => by
    obtain rfl : ks = [] := by simpa [joined] using h.symm
    rw [List.drop_of_length_le (by simpa using Nat.le_of_eq hl)]
    trivial
  | (o, t) :: rest, at_, ks, cs, h, hp, hl => by
    unfold joined at h
    split at h
    · rename_i l r hf hr
      split at h
      · rename_i hc
        obtain ⟨rfl, hlen⟩ := hc
        obtain rfl : l ++ r = ks := by simpa using h
        obtain ⟨m, x, hx⟩ := hp (o, t) (by simp)
        have h1 := ih t l _ x hf ⟨m, hx⟩
        have h2 := joined_ok ih rest (o + P.cellsOf t) r cs hr (fun p hp' => hp p (List.mem_cons_of_mem _ hp')) (by simp at hl; omega)
        have : cs.drop o = (cs.drop o).take (P.cellsOf t) ++ cs.drop (o + P.cellsOf t) := by
          rw [← List.drop_drop]; exact (List.take_append_drop _ _).symm
        rw [this]
        exact h1.append h2
      · cases h
    · cases h

/-- A READING SAYS OF EACH CELL WHAT IT IS. -/
theorem ok_of_trod : ∀ (n : Nat) (t : TypeId) (ks : List Kd) (cs : List Value) (x : DataW H × List MemPlace), kinds P n t = some ks → (∃ m, DataW.trod enc P w 0 spare true m t cs = some x) → AllOk enc P w spare ks cs
  | 0, _, _, _, _, h, _ => by simp [kinds] at h
  | n + 1, t, ks, cs, x, h, ⟨m, hx⟩ => by
    unfold kinds at h
    split at h
    · rename_i k hu
      obtain rfl : [Kd.int k] = ks := by simpa using h
      obtain ⟨q, rfl, _, hw⟩ := DataW.trod_int hu hx
      exact ⟨⟨q, rfl, hw⟩, trivial⟩
    · rename_i hu
      obtain rfl : [Kd.bool] = ks := by simpa using h
      obtain ⟨b, rfl, _⟩ := DataW.trod_bool hu hx
      exact ⟨⟨b, rfl⟩, trivial⟩
    · rename_i hu
      obtain rfl : [Kd.str] = ks := by simpa using h
      obtain ⟨s, rfl, _, hs⟩ := DataW.trod_string hu hx
      exact ⟨⟨s, rfl, hs⟩, trivial⟩
    · rename_i e hu
      obtain rfl : [Kd.sl e] = ks := by simpa using h
      rcases open_slice hu hx with ⟨rfl, _⟩ | ⟨a, len, cap, mm, q, D, Pl, rfl, _, hl, hm, hmm, _, hi⟩
      · exact ⟨Or.inl rfl, trivial⟩
      · refine ⟨Or.inr ⟨a, len, cap, q, rfl, hl, hm, fun i hi' => ?_⟩, trivial⟩
        obtain ⟨cs', h1, h2⟩ := hi i (by rw [hmm]; split <;> omega)
        exact ⟨cs', _, h1, h2⟩
    · rename_i fs hu
      obtain ⟨xs, q, _, _, hl, hxs, hf⟩ := DataW.trod_struct hu hx
      obtain ⟨h, hlen⟩ := whole_some h
      have := joined_ok (cs := cs) (ok_of_trod n) (fs.toList.map fun f => (f.offset, f.type)) 0 ks h (fun p hp => by
        obtain ⟨f, hfm, rfl⟩ := List.mem_map.1 hp
        obtain ⟨i, hi, hfi⟩ := List.getElem_of_mem hfm
        have hfi' : fs[i]? = some f := by
          rw [← hfi, Array.getElem_toList]
          exact Array.getElem?_eq_getElem (by simpa using hi)
        have := hf i f hfi'
        have hi2 : i < xs.length := by rw [hxs]; simpa using hi
        rw [List.getElem?_eq_getElem hi2] at this
        exact ⟨q, _, this⟩)
      simpa using this (by rw [hl, hlen, Nat.zero_add])
    · rename_i m' e hu
      obtain ⟨xs, q, _, _, hl, hxs, hf⟩ := DataW.trod_array hu hx
      obtain ⟨h, hlen⟩ := whole_some h
      have := joined_ok (cs := cs) (ok_of_trod n) ((List.range m').map fun i => (i * P.cellsOf e, e)) 0 ks h (fun p hp => by
        obtain ⟨i, hi, rfl⟩ := List.mem_map.1 hp
        have hi' : i < m' := List.mem_range.1 hi
        have := hf i hi'
        rw [List.getElem?_eq_getElem (by omega)] at this
        exact ⟨q, _, this⟩)
      simpa using this (by rw [hl, hlen, Nat.zero_add])
    · cases h

/-- A STRUCT OR AN ARRAY BY VALUE, OPENED. -/
theorem open_flat {W : World} {base : Nat} {t : TypeId} {v : Value} {d : DataW H} {p : List MemPlace} (n : Nat) (ks : List Kd) (hk : kinds P n t = some ks) (hu : (match P.underlying t with | some (.struct _) | some (.array _ _) => true | _ => false) = true)
    (hv : Value.okWide P W .any base t v) (h : DataW.Trod enc P W 0 (fun _ => true) true t v d p) : ∃ cs : Array Value, v = .agg cs ∧ AllOk enc P W (fun _ => true) ks cs.toList := by
  obtain ⟨fuel, hf⟩ := h
  unfold Value.okWide at hv
  split at hv
  · obtain ⟨cs, rfl, _, _⟩ := hv
    exact ⟨cs, rfl, ok_of_trod n t ks _ _ hk ⟨fuel, hf⟩⟩
  · obtain ⟨cs, rfl, _, _⟩ := hv
    exact ⟨cs, rfl, ok_of_trod n t ks _ _ hk ⟨fuel, hf⟩⟩
  · rename_i h1 h2
    split at hu <;> simp_all
/-- A CELL OF WHATEVER KIND, OPENED. -/
theorem open_cell {W : World} {base : Nat} {t : TypeId} {v : Value} {d : DataW H} {p : List MemPlace} (k : Kd) (hk : kinds P 1 t = some [k])
    (_hv : Value.okWide P W .any base t v) (h : DataW.Trod enc P W 0 (fun _ => true) true t v d p) (hc : v.cells = #[v]) : CellOk enc P W (fun _ => true) k v := by
  obtain ⟨fuel, hf⟩ := h
  rw [hc] at hf
  exact (ok_of_trod 1 t [k] _ _ hk ⟨fuel, hf⟩).1

/-- WHAT A WALK IS TOLD OF A SLICE THAT CAME IN: its elements' cells, m of them an element, are those that 'cells' says of the list. -/
def IsElems {α : Type} (w : World) (a : Option Addr) (len m : Nat) (cells : α → List Value) (l : List α) : Prop :=
  l.length = len ∧ ∀ i x, l[i]? = some x → ∃ b off, a = some ⟨b, off, none⟩ ∧ b < w.heap.size ∧ ∀ j u, (cells x)[j]? = some u → w.cell? ⟨b, off + i * m + j, none⟩ = some u
theorem choose_list {α : Type} {p : Nat → α → Prop} : ∀ (n : Nat), (∀ i, i < n → ∃ x, p i x) → ∃ l : List α, l.length = n ∧ ∀ i x, l[i]? = some x → p i x
  | 0, _ => ⟨[], rfl, fun i x h => by simp at h⟩
  | n + 1, h => by
    obtain ⟨l, hl, hp⟩ := choose_list n (fun i hi => h i (by omega))
    obtain ⟨x, hx⟩ := h n (by omega)
    refine ⟨l ++ [x], by simp [hl], fun i y hy => ?_⟩
    by_cases hi : i < n
    · rw [List.getElem?_append_left (by omega)] at hy; exact hp i y hy
    · have hlt := (List.getElem?_eq_some_iff.1 hy).1
      obtain rfl : i = n := by simp [hl] at hlt; omega
      rw [List.getElem?_append_right (by omega)] at hy
      simp [hl] at hy
      exact hy ▸ hx
/-- A SLICE OF ELEMENTS OF ONE SHAPE, OPENED: α is what an element stands for. -/
theorem open_elems {α : Type} {W : World} {base : Nat} {t e : TypeId} {v : Value} {d : DataW H} {p : List MemPlace} (m : Nat) (n : Nat) (ks : List Kd) (cells : α → List Value) (ok : α → Prop)
    (ht : P.underlying t = some (.slice e)) (hk : kinds P n e = some ks) (hm : P.cellsOf e = m) (hm0 : 0 < m)
    (hα : ∀ vs, AllOk enc P W (fun _ => true) ks vs → ∃ x, vs = cells x ∧ ok x)
    (hv : Value.okWide P W .any base t v) (h : DataW.Trod enc P W 0 (fun _ => true) true t v d p) :
    ∃ a len cap l, v = .slice a len cap ∧ (IsElems W a len m cells l ∧ (∀ x ∈ l, ok x) ∧ len ≤ maxLen) := by
  obtain ⟨a0, len0, cap0, rfl⟩ := okWide_slice ht hv
  have hc := open_cell (.sl e) (by simp [kinds, ht]) hv h rfl
  rcases hc with h0 | ⟨a, len, cap, q, h1, hl, hmx, hel⟩
  · cases h0
    exact ⟨_, _, _, [], rfl, ⟨rfl, fun i x hx => by simp at hx⟩, fun x hx => by simp at hx, by decide⟩
  · cases h1
    by_cases hz : len0 = 0
    · subst hz
      exact ⟨_, _, _, [], rfl, ⟨rfl, fun i x hx => by simp at hx⟩, fun x hx => by simp at hx, by decide⟩
    · have hsp : a.spot = none := by
        obtain ⟨cs, y, hcs, _⟩ := hel 0 (by omega)
        obtain ⟨_, hlen, hcell⟩ := World.cells?_some hcs
        have := hcell 0 (by omega)
        rw [List.getElem?_eq_getElem (by omega)] at this
        have := World.cell?_spot this
        simpa [Addr.add] using this
      obtain ⟨b, off, spot⟩ := a
      obtain rfl : spot = none := hsp
      have key : ∀ i, i < len0 → ∃ x : α, ok x ∧ b < W.heap.size ∧ ∀ (j : Nat) (u : Value), (cells x)[j]? = some u → W.cell? ⟨b, off + i * m + j, none⟩ = some u := fun i hi => by
        obtain ⟨cs, y, hcs, htr⟩ := hel i hi
        obtain ⟨x, rfl, hx⟩ := hα cs (ok_of_trod n e ks cs y hk ⟨q, htr⟩)
        obtain ⟨_, hlen, hcell⟩ := World.cells?_some hcs
        rw [hm] at hlen hcell
        have plain : ∀ j, j < m → W.cell? ⟨b, off + i * m + j, none⟩ = (cells x)[j]? := fun j hj => by
          rw [← hcell j hj, add_plain, add_plain]
        refine ⟨x, hx, ?_, fun j u hu => ?_⟩
        · have := plain 0 hm0
          rw [List.getElem?_eq_getElem (by omega)] at this
          exact World.block_lt_of_cell? W _ this
        · have hj := (List.getElem?_eq_some_iff.1 hu).1
          rw [plain j (by omega)]; exact hu
      obtain ⟨l, hlen, hp⟩ := choose_list len0 key
      refine ⟨_, _, _, l, rfl, ⟨hlen, fun i x hx => ?_⟩, fun x hx => ?_, by omega⟩
      · obtain ⟨_, h2, h3⟩ := hp i x hx
        exact ⟨b, off, rfl, h2, h3⟩
      · obtain ⟨i, hi, rfl⟩ := List.getElem_of_mem hx
        exact (hp i _ (List.getElem?_eq_getElem hi)).1
/-- TWO NUMBERS OF ONE KIND BY VALUE ('[2]uint32', '[2]int'). -/
theorem open_pair {W : World} {base : Nat} {t : TypeId} {v : Value} {d : DataW H} {p : List MemPlace} {k : IntKind} (hk : kinds P 2 t = some [.int k, .int k]) (hu : (match P.underlying t with | some (.struct _) | some (.array _ _) => true | _ => false) = true)
    (hv : Value.okWide P W .any base t v) (h : DataW.Trod enc P W 0 (fun _ => true) true t v d p) : ∃ q0 q1, v = .agg #[.int k q0, .int k q1] ∧ ((Lit.int k q0).wf = true ∧ (Lit.int k q1).wf = true) := by
  obtain ⟨cs, rfl, hall⟩ := open_flat 2 _ hk hu hv h
  clear h hv
  have e : cs = cs.toList.toArray := by simp
  rw [e]
  clear e
  revert hall
  generalize cs.toList = l
  intro hall
  match l, hall with
  | [_, _], ⟨⟨q0, e0, h0⟩, ⟨q1, e1, h1⟩, _⟩ => exact ⟨q0, q1, by rw [e0, e1], h0, h1⟩
/-- TWO NUMBERS OF TWO KINDS BY VALUE ('struct { b byte; n int }'). -/
theorem open_two {W : World} {base : Nat} {t : TypeId} {v : Value} {d : DataW H} {p : List MemPlace} {k k2 : IntKind} (hk : kinds P 2 t = some [.int k, .int k2]) (hu : (match P.underlying t with | some (.struct _) | some (.array _ _) => true | _ => false) = true)
    (hv : Value.okWide P W .any base t v) (h : DataW.Trod enc P W 0 (fun _ => true) true t v d p) : ∃ q0 q1, v = .agg #[.int k q0, .int k2 q1] ∧ ((Lit.int k q0).wf = true ∧ (Lit.int k2 q1).wf = true) := by
  obtain ⟨cs, rfl, hall⟩ := open_flat 2 _ hk hu hv h
  clear h hv
  have e : cs = cs.toList.toArray := by simp
  rw [e]
  clear e
  revert hall
  generalize cs.toList = l
  intro hall
  match l, hall with
  | [_, _], ⟨⟨q0, e0, h0⟩, ⟨q1, e1, h1⟩, _⟩ => exact ⟨q0, q1, by rw [e0, e1], h0, h1⟩
end
end Opn
end Go.Proofs.YtnffkbpgcidpkaaGreatDoor
namespace Go.Proofs.YtnffkbpgcidpkaaGreatDoor
open Go.RowKit BitM
set_option linter.unusedVariables false

theorem five_q : ([] ++ field 5 3) ++ field 1 2 = [true, false, true, false, true] := by decide
theorem five_pad : byts ([true, false, true, false, true] ++ padding [true, false, true, false, true]) = [168] := by decide
theorem five_get : num (((bitsOf [168]).drop 0).take 5) = 21 := by decide
/-! ### A nil reader -/
set_option maxHeartbeats 400000 in
theorem get_nil (x : Value) (w : World) : Calls Tryz.prog 118 #[.pointer none, x] w fun e w' => e = .returned (.tuple #[.int .u32 0, .int .i64 7]) ∧ w = w' := by
  go_enter Tryz.func118, Tryz.ntmps118
  go_wp2_with fail
  go_ret2
  exact ⟨rfl, rfl⟩
set_option maxHeartbeats 400000 in
theorem align_nil (w : World) : Calls Tryz.prog 124 #[.pointer none] w fun e w' => e = .returned (.tuple #[]) ∧ w = w' := by
  go_enter Tryz.func124, Tryz.ntmps124
  go_wp2_with fail
  refine bodyPost_ret (results_none rfl _ _ _) rfl ?_
  exact ⟨rfl, rfl⟩
set_option maxHeartbeats 400000 in
theorem more_nil (x : Value) (w : World) : Calls Tryz.prog 33 #[.pointer none, x] w fun e w' => e = .returned (.int .i64 7) ∧ w = w' := by
  go_enter Tryz.func33, Tryz.ntmps33
  go_wp2_with fail
  go_ret
  exact ⟨rfl, rfl⟩
set_option maxHeartbeats 400000 in
theorem seek_nil (x : Value) (w : World) : Calls Tryz.prog 175 #[.pointer none, x] w fun e w' => e = .returned (.int .i64 7) ∧ w = w' := by
  go_enter Tryz.func175, Tryz.ntmps175
  go_wp2_with fail
  go_ret
  exact ⟨rfl, rfl⟩
set_option maxHeartbeats 400000 in
theorem rat_nil (w : World) : Calls Tryz.prog 173 #[.pointer none] w fun e w' => e = .returned (.int .i64 0) ∧ w = w' := by
  go_enter Tryz.func173, Tryz.ntmps173
  go_wp2_with fail
  go_ret
  exact ⟨rfl, rfl⟩
set_option maxHeartbeats 400000 in
theorem rleft_nil (w : World) : Calls Tryz.prog 117 #[.pointer none] w fun e w' => e = .returned (.int .i64 0) ∧ w = w' := by
  go_enter Tryz.func117, Tryz.ntmps117
  go_wp2_with fail
  go_ret
  exact ⟨rfl, rfl⟩
set_option maxHeartbeats 400000 in
theorem drop_nil (w : World) : Calls Tryz.prog 57 #[.pointer none] w fun e w' => e = .returned (.int .i64 0) ∧ w = w' := by
  go_enter Tryz.func57, Tryz.ntmps57
  go_wp2_with fail
  go_ret
  exact ⟨rfl, rfl⟩
set_option maxHeartbeats 400000 in
theorem rheld_nil (w : World) : Calls Tryz.prog 28 #[.pointer none] w fun e w' => e = .returned (.int .i64 0) ∧ w = w' := by
  go_enter Tryz.func28, Tryz.ntmps28
  go_wp2_with fail
  go_ret
  exact ⟨rfl, rfl⟩
end Go.Proofs.YtnffkbpgcidpkaaGreatDoor

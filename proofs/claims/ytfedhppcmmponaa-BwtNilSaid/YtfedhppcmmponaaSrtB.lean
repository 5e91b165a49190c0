/-
  THE WALKS OF LAYER 16's CODE (package sorter): a pass is begun; keys.
-/
import Derived.Test.YtfedhppcmmponaaSrtA
import Derived.Laws.EntriesVeiled
namespace Go.Proofs.Ytfedhppcmmponaa
open Go.RowKit BwtM SrtM PkM
set_option linter.unusedVariables false
set_option maxHeartbeats 1000000 in
/-- 'append' of parts. -/
theorem push_parts {ops : Array Oper} {rest : List Oper} {o : Oper} {a : Act} {Q : Exit → Act → World → Prop} (W : World) (hg : o.guard = none) (s x : Operand)
    (ho : o.op = .call { callee := .builtin .append, args := #[s, x], argTypes := #[60, 60] })
    (B G m : Nat) (v : Value) (ps qs : List Part) (hm : qs.length = m) (hown : OwnP W B v ps) (hs : a.eval s = v) (hx : a.eval x = .slice (some ⟨G, 0, none⟩) m m) (hG : ∀ j u, (pflat qs)[j]? = some u → W.cell? ⟨G, j, none⟩ = some u)
    (hlen : ps.length + m ≤ 1000000) (hb : B ≤ W.heap.size)
    (h : ∀ v' w', OwnP w' B v' (ps ++ qs) → Below B W w' → (∀ k, k < W.heap.size → v.ownBlock ≠ some k → w'.heap[k]? = W.heap[k]?) → (∀ k, v'.ownBlock = some k → v.ownBlock = some k ∨ W.heap.size ≤ k) → wpList Try.prog ops Q rest (a.put o.dst v') w') :
    wpList Try.prog ops Q (o :: rest) a W := by
  obtain ⟨i0, hi, hz0, hz1, hz2⟩ := info_parts info_part
  subst hm
  refine wpList_append_own2 hg s x 60 ho B 72 i0 (.agg #[.int .i64 0, .int .i64 0, .bool false]) 3 24 Try.underlying60 hi hz0 hz1 hz2 rfl (by decide) v ps.length (pflat ps) hown hs ⟨G, 0, none⟩ qs.length qs.length (pflat qs) hx (pflat_len qs) ?_ ?_ ?_ ?_ hb ?_
  · intro j u hu
    have := hG j u hu
    rwa [Addr.add_lit, Nat.zero_add]
  · intro u hu
    obtain ⟨p, _, hp⟩ := List.mem_flatMap.1 hu
    simp [pcells] at hp
    rcases hp with rfl | rfl | rfl <;> rfl
  · unfold maxLen; omega
  · omega
  · intro v' w' hown' hg' hv
    refine h v' w' ?_ (Below.grown (Below.refl B W) hg' hb (fun j hj => (World.ownsRow.lt hown j hj).1)) (fun k hk hne => hg'.block k hk (fun e => hne e.symm)) hv
    unfold OwnP
    rw [List.length_append, pflat_app]
    exact hown'
section
variable {B : Nat} {b bo bc ba n : Nat} {vk vw : Value} {kb : List Nat} {S : SS}
def passSS (S : SS) (r : Nat) (ps : List Part) : SS := { S with reach := r, ps := ps }
/-- A pushed row: blocks but the old row's are as they were, the new row's is that or a new one. -/
structure Pushed (w w' : World) (v v' : Value) : Prop where
  os : w'.os = w.os
  tape : w'.tape = w.tape
  output : w'.output = w.output
  size : w.heap.size ≤ w'.heap.size
  block : ∀ k, k < w.heap.size → v.ownBlock ≠ some k → w'.heap[k]? = w.heap[k]?
  own : ∀ k, v'.ownBlock = some k → v.ownBlock = some k ∨ w.heap.size ≤ k
/-- The stack's row has grown. -/
theorem IsSo.grown {w w' : World} {vw' : Value} {ps : List Part} {S' : SS} (h : IsSo B w b bo bc ba vk vw n kb S) (ht : Pushed w w' vw vw') (hw : OwnP w' B vw' ps) (x : Nat) (hp : SoObj w' b bo bc ba n vk vw S → True)
    (hS : S' = { S with ps := ps }) : IsSo B (w'.setCell ⟨b, 5, none⟩ vw') b bo bc ba vk vw' n kb S' := by
  subst hS
  obtain ⟨a1, a2, a3, a4, a5, a6⟩ := h.apart
  have tt : Touch (fun k => vw.ownBlock = some k) w w' := ⟨ht.os, ht.tape, ht.output, ht.size, fun k hk hn => ht.block k hk hn⟩
  have hob : SoObj w' b bo bc ba n vk vw S := h.obj.other tt (fun e => (h.wap b e).1 rfl)
  have hro := h.ro.other tt (fun e => (h.wap bo e).2.1 rfl)
  have hrc := h.rc.other tt (fun e => (h.wap bc e).2.2.1 rfl)
  have hra := h.ra.other tt (fun e => (h.wap ba e).2.2.2 rfl)
  have hwap : ∀ k, vw'.ownBlock = some k → k ≠ b ∧ k ≠ bo ∧ k ≠ bc ∧ k ≠ ba := fun k hk => by
    rcases ht.own k hk with e | e
    · exact h.wap k e
    · have l1 := h.obj.lt
      have l2 := h.ro.lt
      have l3 := h.rc.lt
      have l4 := h.ra.lt
      exact ⟨by omega, by omega, by omega, by omega⟩
  have t2 : Touch (· = b) w' (w'.setCell ⟨b, 5, none⟩ vw') := touch_cell (Touch.refl _ _)
  exact ⟨hob.set5 vw' ps, hro.other t2 (fun e => a1 e.symm), hrc.other t2 (fun e => a2 e.symm), hra.other t2 (fun e => a3 e.symm), h.lo, h.lc, h.la, hw.same (fun k hk => t2.block k (hw.lt k hk).2 (hwap k hk).1), h.apart, hwap, h.base,
    fun g hg => ⟨Nat.lt_of_lt_of_le (h.kap g hg).1 (Nat.le_trans ht.size t2.size), (h.kap g hg).2.1, (h.kap g hg).2.2.1, (h.kap g hg).2.2.2.1, (h.kap g hg).2.2.2.2.1, fun e => by
      rcases ht.own g e with e2 | e2
      · exact (h.kap g hg).2.2.2.2.2 e2
      · have := (h.kap g hg).1; omega⟩⟩
end
section
variable {B : Nat} {b bo bc ba n : Nat} {vk vw : Value} {kb : List Nat} {S : SS}
theorem pushed_box {W : World} {v v' : Value} {w' : World} (o : Obj) (hB : Below B (W.alloc o) w') (h1 : ∀ k, k < (W.alloc o).heap.size → v.ownBlock ≠ some k → w'.heap[k]? = (W.alloc o).heap[k]?) (h2 : ∀ k, v'.ownBlock = some k → v.ownBlock = some k ∨ (W.alloc o).heap.size ≤ k) : Pushed W w' v v' := by
  have hs : (W.alloc o).heap.size = W.heap.size + 1 := by simp
  exact ⟨hB.os, hB.tape, hB.output, by have := hB.size; omega, fun k hk hn => (h1 k (by omega) hn).trans (alloc_old hk), fun k hk => (h2 k hk).imp id (fun h => by omega)⟩
/-- What pass leaves. -/
def PassP (B : Nat) (w w' : World) (b bo bc ba n : Nat) (vk : Value) (kb : List Nat) (S' : SS) (e : Ending) : Prop :=
  e = .returned (.tuple #[]) ∧ ∃ vw', IsSo B w' b bo bc ba vk vw' n kb S' ∧ Below B w w' ∧ KbSame w w' kb
set_option maxRecDepth 100000 in
set_option maxHeartbeats 4000000 in
theorem spass_any (w : World) (r f : Nat) (xs : Array Value) (h : IsSo B w b bo bc ba vk vw n kb S) (hps : S.ps = []) (hb : B ≤ w.heap.size) (hn : n ≤ 1000000) :
    Calls Try.prog 45 #[.pointer (some ⟨b, 0, none⟩), .int .i64 (r : Int), .func (.func f) #[] xs] w fun e w' =>
    PassP B w w' b bo bc ba n (.func (.func f) #[] xs) kb (passSS S r [⟨0, n, false⟩]) e := by
  have H := Lib.hid h
  have hw := h.wt
  rw [hps] at hw
  have HPS := Lib.hid hps
  obtain ⟨d0, _, _, d3, d4, d5, _⟩ := h.obj.cells
  have e3 := h.obj.frozen 3 (by omega)
  have e4 := h.obj.frozen 4 (by omega)
  obtain ⟨wa, wc, hwe⟩ := hw.slice
  have hwe : vw = .slice wa 0 wc := hwe
  subst hwe
  have HO1 : Hid (IsSo B ((w.setCell ⟨b, 3, none⟩ (.int .i64 (r : Int))).setCell ⟨b, 4, none⟩ (.func (.func f) #[] xs)) b bo bc ba (.func (.func f) #[] xs) (.slice wa 0 wc) n kb { S with reach := r }) := Lib.hid (by
    have t : Touch (· = b) w ((w.setCell ⟨b, 3, none⟩ (.int .i64 (r : Int))).setCell ⟨b, 4, none⟩ (.func (.func f) #[] xs)) := touch_cell (touch_cell (Touch.refl _ _))
    have o := (h.obj.set3 r).set4 (.func (.func f) #[] xs)
    obtain ⟨a1, a2, a3, a4, a5, a6⟩ := h.apart
    exact ⟨o, h.ro.other t (fun e => a1 e.symm), h.rc.other t (fun e => a2 e.symm), h.ra.other t (fun e => a3 e.symm), h.lo, h.lc, h.la, h.wt.same (fun k hk => t.block k (h.wt.lt k hk).2 (h.wap k hk).1), h.apart, h.wap, h.base, fun g hg => ⟨Nat.lt_of_lt_of_le (h.kap g hg).1 t.size, (h.kap g hg).2⟩⟩)
  have HT1 : Hid (Touch (· = b) w ((w.setCell ⟨b, 3, none⟩ (.int .i64 (r : Int))).setCell ⟨b, 4, none⟩ (.func (.func f) #[] xs))) := Lib.hid (touch_cell (touch_cell (Touch.refl _ _)))
  clear h hw hps
  go_enter Try.func45, Try.ntmps45
  go_wp2_with fail
  generalize (w.setCell ⟨b, 3, none⟩ (.int .i64 (r : Int))).setCell ⟨b, 4, none⟩ (.func (.func f) #[] xs) = w1 at *
  clear d0 d3 d4 d5 e3 e4
  obtain ⟨d0, _, _, _, _, d5, _⟩ := HO1.out.obj.cells
  have HO2 := Lib.hid (HO1.out.drewN 1)
  have HBS : Hid (B ≤ (w1.drewN 1).heap.size) := Lib.hid (Nat.le_trans hb HT1.out.size)
  have HT2 : Hid (Touch (· = b) w (w1.drewN 1)) := Lib.hid (HT1.out.trans (touch_drewN (· = b) w1 1) (fun _ h => Or.inl h))
  have HBX : Hid (∀ j u, (pflat [⟨0, n, false⟩])[j]? = some u → ((w1.drewN 1).alloc (.cells #[.int .i64 0, .int .i64 (n : Int), .bool false] 72)).cell? ⟨w1.heap.size, j, none⟩ = some u) := Lib.hid (fun j u hu => by
    have hh := heap_alloc_new (w1.drewN 1) (.cells #[.int .i64 0, .int .i64 (n : Int), .bool false] 72)
    have e := cell_of_row ((w1.drewN 1).alloc (.cells #[.int .i64 0, .int .i64 (n : Int), .bool false] 72)) w1.heap.size j _ _ _ hh
    rw [e, ← hu]
    simp [pflat, pcells])
  have HAL : Hid (B ≤ ((w1.drewN 1).alloc (.cells #[.int .i64 0, .int .i64 (n : Int), .bool false] 72)).heap.size) := Lib.hid (by have := HBS.out; simp at this ⊢; omega)
  have HOWA : Hid (OwnP ((w1.drewN 1).alloc (.cells #[.int .i64 0, .int .i64 (n : Int), .bool false] 72)) B (.slice wa 0 wc) []) := Lib.hid (by
    have h0 := HO2.out.wt
    rw [show ({ S with reach := r } : SS).ps = [] from HPS.out] at h0
    exact World.ownsRow.alloc h0 _)
  have dA5 : ((w1.alloc (.cells #[.int .i64 0, .int .i64 (n : Int), .bool false] 72)).drew).cell? ⟨b, 5, none⟩ = some (.slice wa 0 wc) := (World.cell?_alloc_some w1 _ _ (by rw [d5]; rfl)).trans d5
  have dA0 : ((w1.alloc (.cells #[.int .i64 0, .int .i64 (n : Int), .bool false] 72)).drew).cell? ⟨b, 0, none⟩ = some (.slice (some ⟨bo, 0, none⟩) n n) := (World.cell?_alloc_some w1 _ _ (by rw [d0]; rfl)).trans d0
  go_region_law (first
    | (refine step_push_parts ((w1.drewN 1).alloc (.cells #[.int .i64 0, .int .i64 (n : Int), .bool false] 72)) (by rfl) _ _ (by rfl) B w1.heap.size 1 (.slice wa 0 wc) [] [⟨0, n, false⟩] (by rfl) HOWA.out (by rfl) (by rfl) HBX.out (by simp) HAL.out ?_; intro v' w3 hO3 hB3 hk3 hf3; have hb3 : w3.heap[b]? = w1.heap[b]? := ((hk3 b (by have := HO2.out.obj.lt; simp at this ⊢; omega) (fun e => (HO2.out.wap b e).1 rfl)).trans (alloc_old HO2.out.obj.lt)); have f5 : w3.cell? ⟨b, 5, none⟩ = some (.slice wa 0 wc) := ((World.cell?_of_block (w := w1) (a := ⟨b, 5, none⟩) hb3).trans d5); have g5 : w3.frozen? ⟨b, 5, none⟩ = false := ((World.frozen?_of_block (w := w1) (a := ⟨b, 5, none⟩) hb3).trans (HO2.out.obj.frozen 5 (by omega))); obtain ⟨va, vc, rfl⟩ := hO3.slice; have HO3 := Lib.hid hO3; have HB3 := Lib.hid hB3; have HK3 := Lib.hid hk3; have HF3 := Lib.hid hf3; clear hO3 hB3 hk3 hf3 hb3))
  all_goals
    have HG : Hid (IsSo B (w3.setCell ⟨b, 5, none⟩ (.slice va ([] ++ [(⟨0, n, false⟩ : Part)]).length vc)) b bo bc ba (.func (.func f) #[] xs) (.slice va ([] ++ [(⟨0, n, false⟩ : Part)]).length vc) n kb (passSS S r [⟨0, n, false⟩])) := Lib.hid (HO2.out.grown (pushed_box _ HB3.out HK3.out HF3.out) HO3.out 0 (fun _ => trivial) rfl)
    have HBB : Hid (Below B w (w3.setCell ⟨b, 5, none⟩ (.slice va ([] ++ [(⟨0, n, false⟩ : Part)]).length vc))) := Lib.hid (((HT2.out.below hb (fun k hk => by have := HO2.out.base.1; have e : k = b := hk; omega)).trans (((Below.refl B (w1.drewN 1)).alloc HBS.out _).trans HB3.out)).setCell (p := ⟨b, 5, none⟩) HO2.out.base.1 _)
    have HKB : Hid (KbSame w (w3.setCell ⟨b, 5, none⟩ (.slice va ([] ++ [(⟨0, n, false⟩ : Part)]).length vc)) kb) := Lib.hid (fun g hg => by
      obtain ⟨k1, k2, k3, k4, k5, k6⟩ := HO2.out.kap g hg
      rw [heap_setCell_other _ _ _ _ (by exact k2)]
      have hsz : ((w1.drewN 1).alloc (.cells #[.int .i64 0, .int .i64 (n : Int), .bool false] 72)).heap.size = (w1.drewN 1).heap.size + 1 := by simp
      rw [HK3.out g (by omega) (fun e => k6 e), alloc_old k1]
      exact HT2.out.block g (by have := (H.out.kap g hg).1; exact this) k2)
    clear f5 g5
    go_wp2_with fail
    refine bodyPost_end (results_none rfl _ _ _) rfl ?_
    exact ⟨rfl, _, HG.out, HBB.out, HKB.out⟩
end
end Go.Proofs.Ytfedhppcmmponaa

/-
  LAYER 16's CODE (package sorter): the stack of parts and the sorter as they lie in memory.
-/
import Derived.Test.YtfedhppcmmponaaSrtMathD
import Derived.Test.YtfedhppcmmponaaObjF
import Derived.Test.YtfedhppcmmponaaRot
import Derived.Test.YtfedhppcmmponaaInts
import Derived.Test.YtfedhppcmmponaaToI
import Derived.Deep.RegionHeld3
namespace Go.Proofs.Ytfedhppcmmponaa
open Go.RowKit BwtM SrtM PkM
set_option linter.unusedVariables false
def pcells (p : Part) : List Value := [.int .i64 (p.lo : Int), .int .i64 (p.hi : Int), .bool p.begun]
def pflat (ps : List Part) : List Value := ps.flatMap pcells
theorem pflat_app (ps qs : List Part) : pflat (ps ++ qs) = pflat ps ++ pflat qs := by unfold pflat; rw [List.flatMap_append]
theorem pflat_one (p : Part) : pflat [p] = pcells p := by unfold pflat; simp
theorem pflat_len : ∀ (ps : List Part), (pflat ps).length = ps.length * 3
  | [] => rfl
  | p :: ps => by
    have h : pflat (p :: ps) = pcells p ++ pflat ps := rfl
    rw [h, List.length_append, pflat_len ps, List.length_cons]
    have : (pcells p).length = 3 := rfl
    omega
theorem pflat_at {ps : List Part} {p : Part} : (pflat (ps ++ [p]))[ps.length * 3]? = some (.int .i64 (p.lo : Int)) ∧ (pflat (ps ++ [p]))[ps.length * 3 + 1]? = some (.int .i64 (p.hi : Int)) ∧ (pflat (ps ++ [p]))[ps.length * 3 + 2]? = some (.bool p.begun) := by
  rw [pflat_app, pflat_one]
  refine ⟨?_, ?_, ?_⟩ <;> rw [List.getElem?_append_right (by rw [pflat_len]; omega), pflat_len]
  · rw [Nat.sub_self]; rfl
  · rw [show ps.length * 3 + 1 - ps.length * 3 = 1 by omega]; rfl
  · rw [show ps.length * 3 + 2 - ps.length * 3 = 2 by omega]; rfl
/-- v is the row of parts ps, the call's own from block B on. -/
def OwnP (W : World) (B : Nat) (v : Value) (ps : List Part) : Prop := W.ownsRow B 72 3 v ps.length (pflat ps)
theorem OwnP.nil (W : World) (B : Nat) : OwnP W B (.slice none 0 0) [] := World.ownsRow_nil _ _ _ _
theorem OwnP.slice {W : World} {B : Nat} {v : Value} {ps : List Part} (h : OwnP W B v ps) : ∃ a cap, v = .slice a ps.length cap := slice_of_own h
theorem OwnP.lt {W : World} {B : Nat} {v : Value} {ps : List Part} (h : OwnP W B v ps) : ∀ k, v.ownBlock = some k → B ≤ k ∧ k < W.heap.size := World.ownsRow.lt h
theorem OwnP.same {W W' : World} {B : Nat} {v : Value} {ps : List Part} (h : OwnP W B v ps) (he : ∀ k, v.ownBlock = some k → W'.heap[k]? = W.heap[k]?) : OwnP W' B v ps := ownsRow_other h he
/-- The part on top. -/
theorem OwnP.top {W : World} {B : Nat} {v : Value} {ps : List Part} {p : Part} (h : OwnP W B v (ps ++ [p])) :
    ∃ g cap, v = .slice (some ⟨g, 0, none⟩) (ps.length + 1) cap ∧ B ≤ g ∧ g < W.heap.size ∧ ps.length + 1 ≤ cap ∧ W.cell? ⟨g, ps.length * 3, none⟩ = some (.int .i64 (p.lo : Int)) ∧ W.cell? ⟨g, ps.length * 3 + 1, none⟩ = some (.int .i64 (p.hi : Int)) ∧ W.cell? ⟨g, ps.length * 3 + 2, none⟩ = some (.bool p.begun) ∧
      W.frozen? ⟨g, ps.length * 3 + 2, none⟩ = false := by
  have hc := h
  have hl : (ps ++ [p]).length = ps.length + 1 := by simp
  rcases h.2 with ⟨rfl, h0⟩ | ⟨g, cap, cur, rfl, hB, hg, hnc, hcm, hcs, ht⟩
  · rw [hl] at h0; omega
  · obtain ⟨f1, f2, f3⟩ := pflat_at (ps := ps) (p := p)
    refine ⟨g, cap, by rw [hl], hB, (Array.getElem?_eq_some_iff.1 hg).1, by omega, ?_, ?_, ?_, frozen_of_row _ _ _ _ _ hg⟩
    · have := World.ownsRow.cells hc (g := g) rfl _ _ f1
      rwa [Addr.add_lit, Nat.zero_add] at this
    · have := World.ownsRow.cells hc (g := g) rfl _ _ f2
      rwa [Addr.add_lit, Nat.zero_add] at this
    · have := World.ownsRow.cells hc (g := g) rfl _ _ f3
      rwa [Addr.add_lit, Nat.zero_add] at this
theorem OwnP.pop {W : World} {B g cap : Nat} {ps : List Part} {p : Part} (h : OwnP W B (.slice (some ⟨g, 0, none⟩) (ps.length + 1) cap) (ps ++ [p])) : OwnP W B (.slice (some ⟨g, 0, none⟩) ps.length cap) ps := by
  refine ⟨pflat_len ps, ?_⟩
  rcases h.2 with ⟨h0, _⟩ | ⟨g', cap', cur, he, hB, hg, hnc, hcm, hcs, ht⟩
  · simp at h0
  · simp only [Value.slice.injEq, Option.some.injEq, Addr.mk.injEq] at he
    obtain ⟨⟨rfl, _, _⟩, _, rfl⟩ := he
    have hl : (ps ++ [p]).length = ps.length + 1 := by simp
    rw [hl] at ht hnc
    refine Or.inr ⟨g, cap, cur, rfl, hB, hg, by omega, hcm, hcs, ?_⟩
    rw [pflat_app] at ht
    have h2 := congrArg (List.take (ps.length * 3)) ht
    rw [List.take_take, List.take_append_of_le_length (by rw [pflat_len]; exact Nat.le_refl _), List.take_of_length_le (l := pflat ps) (by rw [pflat_len]; exact Nat.le_refl _), show min (ps.length * 3) ((ps.length + 1) * 3) = ps.length * 3 by omega] at h2
    exact h2
theorem OwnP.mark {W : World} {B g cap : Nat} {ps : List Part} {p : Part} (h : OwnP W B (.slice (some ⟨g, 0, none⟩) (ps.length + 1) cap) (ps ++ [p])) : OwnP (W.setCell ⟨g, ps.length * 3 + 2, none⟩ (.bool true)) B (.slice (some ⟨g, 0, none⟩) (ps.length + 1) cap) (ps ++ [⟨p.lo, p.hi, true⟩]) := by
  have hl : (ps ++ [p]).length = ps.length + 1 := by simp
  have hl2 : (ps ++ [(⟨p.lo, p.hi, true⟩ : Part)]).length = ps.length + 1 := by simp
  refine ⟨pflat_len _, ?_⟩
  rcases h.2 with ⟨h0, _⟩ | ⟨g', cap', cur, he, hB, hg, hnc, hcm, hcs, ht⟩
  · simp at h0
  · simp only [Value.slice.injEq, Option.some.injEq, Addr.mk.injEq] at he
    obtain ⟨⟨rfl, _, _⟩, _, rfl⟩ := he
    rw [hl] at ht hnc
    rw [hl2]
    refine Or.inr ⟨g, cap, _, rfl, hB, heap_setCell_same _ _ _ _ _ _ hg, hnc, hcm, by rw [Array.size_setIfInBounds]; exact hcs, ?_⟩
    rw [Array.toList_setIfInBounds, List.take_set, ht, pflat_app, pflat_app, List.set_append_right _ _ (by rw [pflat_len]; omega), pflat_len, show ps.length * 3 + 2 - ps.length * 3 = 2 by omega]
    rfl
theorem info_part : (Try.prog.info? 72).map (fun i => (i.zero, i.size, i.bytes)) = some (some (.agg #[.int .i64 0, .int .i64 0, .bool false]), 3, 24) := by kernel_rfl
set_option maxHeartbeats 1000000 in
/-- 'append' of parts, where an operation of a region that draws its order stands. -/
theorem step_push_parts {ops : Array Oper} {o : Oper} {a : Act} {K : Act → World → Prop} {Q : Exit → Act → World → Prop} {E : Prop} (W : World) (hg : o.guard = none) (s x : Operand)
    (ho : o.op = .call { callee := .builtin .append, args := #[s, x], argTypes := #[60, 60] })
    (B G m : Nat) (v : Value) (ps qs : List Part) (hm : qs.length = m) (hown : OwnP W B v ps) (hs : a.eval s = v) (hx : a.eval x = .slice (some ⟨G, 0, none⟩) m m) (hG : ∀ j u, (pflat qs)[j]? = some u → W.cell? ⟨G, j, none⟩ = some u)
    (hlen : ps.length + m ≤ 1000000) (hb : B ≤ W.heap.size)
    (h : ∀ v' w', OwnP w' B v' (ps ++ qs) → Below B W w' → (∀ k, k < W.heap.size → v.ownBlock ≠ some k → w'.heap[k]? = W.heap[k]?) → (∀ k, v'.ownBlock = some k → v.ownBlock = some k ∨ W.heap.size ≤ k) → K (a.put o.dst v') w') :
    if Region.wanted o (yielded ops a.tmps) = true then Oper.wp Try.prog o a W K Q else E := by
  obtain ⟨i0, hi, hz0, hz1, hz2⟩ := info_parts info_part
  subst hm
  refine step_append_own' hg s x 60 ho B 72 i0 (.agg #[.int .i64 0, .int .i64 0, .bool false]) 3 24 Try.underlying60 hi hz0 hz1 hz2 rfl (by decide) v ps.length (pflat ps) hs hown ⟨G, 0, none⟩ qs.length qs.length (pflat qs) hx (pflat_len qs) ?_ ?_ ?_ ?_ hb ?_
  · intro j u hu
    have := hG j u hu
    rwa [Addr.add_lit, Nat.zero_add]
  · intro u hu
    obtain ⟨p, _, hp⟩ := List.mem_flatMap.1 hu
    simp [pcells] at hp
    rcases hp with rfl | rfl | rfl <;> rfl
  · unfold maxLen; omega
  · omega
  · intro v' w' hown' hg' hv
    refine h v' w' ?_ (Below.grown (Below.refl B W) hg' hb (fun j hj => (World.ownsRow.lt hown j hj).1)) (fun k hk hne => hg'.block k hk (fun e => hne e.symm)) hv
    unfold OwnP
    rw [List.length_append, pflat_app]
    exact hown'

/-! ### Keys -/
/-- A closure that tells keys: it only reads the boxes kb and the classes in block bc. -/
def KeyV (w : World) (vk : Value) (kb : List Nat) (bc n : Nat) (C : List Nat) (K : Nat → Nat) : Prop :=
  ∃ (F : FuncId) (caps : Array Value), vk = .func (.func F) #[] caps ∧ (∀ args w, (callFunc F args).run Try.prog w = .ok (.enter F args) w) ∧
    ∀ w', (∀ g ∈ kb, w'.heap[g]? = w.heap[g]?) → RowI w' bc (toI C) → ∀ i, i < n → Calls Try.prog F (#[.int .i64 (i : Int)] ++ caps) w' fun e w'' => e = .returned (.int .i64 (K i : Int)) ∧ ∃ m, w'' = w'.drewN m
theorem KeyV.same {w w1 : World} {vk : Value} {kb : List Nat} {bc n : Nat} {C : List Nat} {K : Nat → Nat} (h : KeyV w vk kb bc n C K) (he : ∀ g ∈ kb, w1.heap[g]? = w.heap[g]?) : KeyV w1 vk kb bc n C K := by
  obtain ⟨F, caps, h1, h2, h3⟩ := h
  exact ⟨F, caps, h1, h2, fun w' h4 h5 => h3 w' (fun g hg => (h4 g hg).trans (he g hg)) h5⟩

/-! ### The sorter -/
structure SoF (F : Nat → Value) (bo bc ba n : Nat) (vk vw : Value) (S : SS) : Prop where
  f0 : F 0 = .slice (some ⟨bo, 0, none⟩) n n
  f1 : F 1 = .slice (some ⟨bc, 0, none⟩) n n
  f2 : F 2 = .slice (some ⟨ba, 0, none⟩) n n
  f3 : F 3 = .int .i64 (S.reach : Int)
  f4 : F 4 = vk
  f5 : F 5 = vw
  f6 : F 6 = .int .i64 (S.laid : Int)
  f7 : F 7 = .int .i64 (S.first : Int)
  f8 : F 8 = .int .i64 (S.second : Int)
  f9 : F 9 = .int .i64 (S.made : Int)
  f10 : F 10 = .int .i64 (S.steps : Int)
def SoObj (w : World) (b bo bc ba n : Nat) (vk vw : Value) (S : SS) : Prop := ∃ F, ObjF 11 62 w b F ∧ SoF F bo bc ba n vk vw S
/-- A sorter at block b; its rows in the blocks bo, bc, ba, its parts vw; the boxes kb are its key's. -/
structure IsSo (B : Nat) (w : World) (b bo bc ba : Nat) (vk vw : Value) (n : Nat) (kb : List Nat) (S : SS) : Prop where
  obj : SoObj w b bo bc ba n vk vw S
  ro : RowI w bo (toI S.ord)
  rc : RowI w bc (toI S.cls)
  ra : RowI w ba (toI S.asd)
  lo : S.ord.length = n
  lc : S.cls.length = n
  la : S.asd.length = n
  wt : OwnP w B vw S.ps
  apart : b ≠ bo ∧ b ≠ bc ∧ b ≠ ba ∧ bo ≠ bc ∧ bo ≠ ba ∧ bc ≠ ba
  wap : ∀ k, vw.ownBlock = some k → k ≠ b ∧ k ≠ bo ∧ k ≠ bc ∧ k ≠ ba
  base : B ≤ b ∧ B ≤ bo ∧ B ≤ bc ∧ B ≤ ba
  kap : ∀ g ∈ kb, g < w.heap.size ∧ g ≠ b ∧ g ≠ bo ∧ g ≠ bc ∧ g ≠ ba ∧ vw.ownBlock ≠ some g
section
variable {B : Nat} {w w' : World} {b bo bc ba n : Nat} {vk vw : Value} {kb : List Nat} {S S' : SS}
theorem SoObj.cells (h : SoObj w b bo bc ba n vk vw S) :
    w.cell? ⟨b, 0, none⟩ = some (.slice (some ⟨bo, 0, none⟩) n n) ∧ w.cell? ⟨b, 1, none⟩ = some (.slice (some ⟨bc, 0, none⟩) n n) ∧ w.cell? ⟨b, 2, none⟩ = some (.slice (some ⟨ba, 0, none⟩) n n) ∧ w.cell? ⟨b, 3, none⟩ = some (.int .i64 (S.reach : Int)) ∧
    w.cell? ⟨b, 4, none⟩ = some vk ∧ w.cell? ⟨b, 5, none⟩ = some vw ∧ w.cell? ⟨b, 6, none⟩ = some (.int .i64 (S.laid : Int)) ∧ w.cell? ⟨b, 7, none⟩ = some (.int .i64 (S.first : Int)) ∧ w.cell? ⟨b, 8, none⟩ = some (.int .i64 (S.second : Int)) ∧
    w.cell? ⟨b, 9, none⟩ = some (.int .i64 (S.made : Int)) ∧ w.cell? ⟨b, 10, none⟩ = some (.int .i64 (S.steps : Int)) := by
  obtain ⟨F, h1, h2⟩ := h
  refine ⟨?_, ?_, ?_, ?_, ?_, ?_, ?_, ?_, ?_, ?_, ?_⟩
  · rw [(h1.cell (i := 0) (by omega)).1, h2.f0]
  · rw [(h1.cell (i := 1) (by omega)).1, h2.f1]
  · rw [(h1.cell (i := 2) (by omega)).1, h2.f2]
  · rw [(h1.cell (i := 3) (by omega)).1, h2.f3]
  · rw [(h1.cell (i := 4) (by omega)).1, h2.f4]
  · rw [(h1.cell (i := 5) (by omega)).1, h2.f5]
  · rw [(h1.cell (i := 6) (by omega)).1, h2.f6]
  · rw [(h1.cell (i := 7) (by omega)).1, h2.f7]
  · rw [(h1.cell (i := 8) (by omega)).1, h2.f8]
  · rw [(h1.cell (i := 9) (by omega)).1, h2.f9]
  · rw [(h1.cell (i := 10) (by omega)).1, h2.f10]
theorem SoObj.frozen (h : SoObj w b bo bc ba n vk vw S) (i : Nat) (hi : i < 11) : w.frozen? ⟨b, i, none⟩ = false := by
  obtain ⟨F, h1, h2⟩ := h
  exact (h1.cell hi).2
theorem SoObj.lt (h : SoObj w b bo bc ba n vk vw S) : b < w.heap.size := by
  obtain ⟨F, h1, h2⟩ := h
  exact h1.lt
theorem SoObj.other (h : SoObj w b bo bc ba n vk vw S) {X : Nat → Prop} (ht : Touch X w w') (hX : ¬ X b) : SoObj w' b bo bc ba n vk vw S := by
  obtain ⟨F, h1, h2⟩ := h
  exact ⟨F, h1.other ht hX, h2⟩
theorem SoObj.drewN (h : SoObj w b bo bc ba n vk vw S) (m : Nat) : SoObj (w.drewN m) b bo bc ba n vk vw S := h
/-! A field is stored. -/
theorem SoObj.set3 (h : SoObj w b bo bc ba n vk vw S) (x : Nat) : SoObj (w.setCell ⟨b, 3, none⟩ (.int .i64 (x : Int))) b bo bc ba n vk vw { S with reach := x } := by
  obtain ⟨F, h1, h2⟩ := h
  exact ⟨_, h1.set 3 _, (upd_ne _ _ (by omega)).trans h2.f0, (upd_ne _ _ (by omega)).trans h2.f1, (upd_ne _ _ (by omega)).trans h2.f2, upd_same _ _ _, (upd_ne _ _ (by omega)).trans h2.f4, (upd_ne _ _ (by omega)).trans h2.f5, (upd_ne _ _ (by omega)).trans h2.f6, (upd_ne _ _ (by omega)).trans h2.f7, (upd_ne _ _ (by omega)).trans h2.f8, (upd_ne _ _ (by omega)).trans h2.f9, (upd_ne _ _ (by omega)).trans h2.f10⟩
theorem SoObj.set4 (h : SoObj w b bo bc ba n vk vw S) (x : Value) : SoObj (w.setCell ⟨b, 4, none⟩ x) b bo bc ba n x vw S := by
  obtain ⟨F, h1, h2⟩ := h
  exact ⟨_, h1.set 4 _, (upd_ne _ _ (by omega)).trans h2.f0, (upd_ne _ _ (by omega)).trans h2.f1, (upd_ne _ _ (by omega)).trans h2.f2, (upd_ne _ _ (by omega)).trans h2.f3, upd_same _ _ _, (upd_ne _ _ (by omega)).trans h2.f5, (upd_ne _ _ (by omega)).trans h2.f6, (upd_ne _ _ (by omega)).trans h2.f7, (upd_ne _ _ (by omega)).trans h2.f8, (upd_ne _ _ (by omega)).trans h2.f9, (upd_ne _ _ (by omega)).trans h2.f10⟩
theorem SoObj.set5 (h : SoObj w b bo bc ba n vk vw S) (x : Value) (ps : List Part) : SoObj (w.setCell ⟨b, 5, none⟩ x) b bo bc ba n vk x { S with ps := ps } := by
  obtain ⟨F, h1, h2⟩ := h
  exact ⟨_, h1.set 5 _, (upd_ne _ _ (by omega)).trans h2.f0, (upd_ne _ _ (by omega)).trans h2.f1, (upd_ne _ _ (by omega)).trans h2.f2, (upd_ne _ _ (by omega)).trans h2.f3, (upd_ne _ _ (by omega)).trans h2.f4, upd_same _ _ _, (upd_ne _ _ (by omega)).trans h2.f6, (upd_ne _ _ (by omega)).trans h2.f7, (upd_ne _ _ (by omega)).trans h2.f8, (upd_ne _ _ (by omega)).trans h2.f9, (upd_ne _ _ (by omega)).trans h2.f10⟩
theorem SoObj.set6 (h : SoObj w b bo bc ba n vk vw S) (x : Nat) : SoObj (w.setCell ⟨b, 6, none⟩ (.int .i64 (x : Int))) b bo bc ba n vk vw { S with laid := x } := by
  obtain ⟨F, h1, h2⟩ := h
  exact ⟨_, h1.set 6 _, (upd_ne _ _ (by omega)).trans h2.f0, (upd_ne _ _ (by omega)).trans h2.f1, (upd_ne _ _ (by omega)).trans h2.f2, (upd_ne _ _ (by omega)).trans h2.f3, (upd_ne _ _ (by omega)).trans h2.f4, (upd_ne _ _ (by omega)).trans h2.f5, upd_same _ _ _, (upd_ne _ _ (by omega)).trans h2.f7, (upd_ne _ _ (by omega)).trans h2.f8, (upd_ne _ _ (by omega)).trans h2.f9, (upd_ne _ _ (by omega)).trans h2.f10⟩
theorem SoObj.set7 (h : SoObj w b bo bc ba n vk vw S) (x : Nat) : SoObj (w.setCell ⟨b, 7, none⟩ (.int .i64 (x : Int))) b bo bc ba n vk vw { S with first := x } := by
  obtain ⟨F, h1, h2⟩ := h
  exact ⟨_, h1.set 7 _, (upd_ne _ _ (by omega)).trans h2.f0, (upd_ne _ _ (by omega)).trans h2.f1, (upd_ne _ _ (by omega)).trans h2.f2, (upd_ne _ _ (by omega)).trans h2.f3, (upd_ne _ _ (by omega)).trans h2.f4, (upd_ne _ _ (by omega)).trans h2.f5, (upd_ne _ _ (by omega)).trans h2.f6, upd_same _ _ _, (upd_ne _ _ (by omega)).trans h2.f8, (upd_ne _ _ (by omega)).trans h2.f9, (upd_ne _ _ (by omega)).trans h2.f10⟩
theorem SoObj.set8 (h : SoObj w b bo bc ba n vk vw S) (x : Nat) : SoObj (w.setCell ⟨b, 8, none⟩ (.int .i64 (x : Int))) b bo bc ba n vk vw { S with second := x } := by
  obtain ⟨F, h1, h2⟩ := h
  exact ⟨_, h1.set 8 _, (upd_ne _ _ (by omega)).trans h2.f0, (upd_ne _ _ (by omega)).trans h2.f1, (upd_ne _ _ (by omega)).trans h2.f2, (upd_ne _ _ (by omega)).trans h2.f3, (upd_ne _ _ (by omega)).trans h2.f4, (upd_ne _ _ (by omega)).trans h2.f5, (upd_ne _ _ (by omega)).trans h2.f6, (upd_ne _ _ (by omega)).trans h2.f7, upd_same _ _ _, (upd_ne _ _ (by omega)).trans h2.f9, (upd_ne _ _ (by omega)).trans h2.f10⟩
theorem SoObj.set9 (h : SoObj w b bo bc ba n vk vw S) (x : Nat) : SoObj (w.setCell ⟨b, 9, none⟩ (.int .i64 (x : Int))) b bo bc ba n vk vw { S with made := x } := by
  obtain ⟨F, h1, h2⟩ := h
  exact ⟨_, h1.set 9 _, (upd_ne _ _ (by omega)).trans h2.f0, (upd_ne _ _ (by omega)).trans h2.f1, (upd_ne _ _ (by omega)).trans h2.f2, (upd_ne _ _ (by omega)).trans h2.f3, (upd_ne _ _ (by omega)).trans h2.f4, (upd_ne _ _ (by omega)).trans h2.f5, (upd_ne _ _ (by omega)).trans h2.f6, (upd_ne _ _ (by omega)).trans h2.f7, (upd_ne _ _ (by omega)).trans h2.f8, upd_same _ _ _, (upd_ne _ _ (by omega)).trans h2.f10⟩
theorem SoObj.set10 (h : SoObj w b bo bc ba n vk vw S) (x : Nat) : SoObj (w.setCell ⟨b, 10, none⟩ (.int .i64 (x : Int))) b bo bc ba n vk vw { S with steps := x } := by
  obtain ⟨F, h1, h2⟩ := h
  exact ⟨_, h1.set 10 _, (upd_ne _ _ (by omega)).trans h2.f0, (upd_ne _ _ (by omega)).trans h2.f1, (upd_ne _ _ (by omega)).trans h2.f2, (upd_ne _ _ (by omega)).trans h2.f3, (upd_ne _ _ (by omega)).trans h2.f4, (upd_ne _ _ (by omega)).trans h2.f5, (upd_ne _ _ (by omega)).trans h2.f6, (upd_ne _ _ (by omega)).trans h2.f7, (upd_ne _ _ (by omega)).trans h2.f8, (upd_ne _ _ (by omega)).trans h2.f9, upd_same _ _ _⟩
theorem SoObj.swap (h : SoObj w b bo bc ba n vk vw S) : SoObj ((w.setCell ⟨b, 1, none⟩ (.slice (some ⟨ba, 0, none⟩) n n)).setCell ⟨b, 2, none⟩ (.slice (some ⟨bc, 0, none⟩) n n)) b bo ba bc n vk vw { S with cls := S.asd, asd := S.cls } := by
  obtain ⟨F, h1, h2⟩ := h
  refine ⟨_, (h1.set 1 _).set 2 _, ?_, ?_, upd_same _ _ _, ?_, ?_, ?_, ?_, ?_, ?_, ?_, ?_⟩
  · exact (upd_ne _ _ (by omega)).trans ((upd_ne _ _ (by omega)).trans h2.f0)
  · exact (upd_ne _ _ (by omega)).trans (upd_same _ _ _)
  · exact (upd_ne _ _ (by omega)).trans ((upd_ne _ _ (by omega)).trans h2.f3)
  · exact (upd_ne _ _ (by omega)).trans ((upd_ne _ _ (by omega)).trans h2.f4)
  · exact (upd_ne _ _ (by omega)).trans ((upd_ne _ _ (by omega)).trans h2.f5)
  · exact (upd_ne _ _ (by omega)).trans ((upd_ne _ _ (by omega)).trans h2.f6)
  · exact (upd_ne _ _ (by omega)).trans ((upd_ne _ _ (by omega)).trans h2.f7)
  · exact (upd_ne _ _ (by omega)).trans ((upd_ne _ _ (by omega)).trans h2.f8)
  · exact (upd_ne _ _ (by omega)).trans ((upd_ne _ _ (by omega)).trans h2.f9)
  · exact (upd_ne _ _ (by omega)).trans ((upd_ne _ _ (by omega)).trans h2.f10)
/-- Only the object's own cells have turned (and what is new). -/
theorem IsSo.own (h : IsSo B w b bo bc ba vk vw n kb S) (ht : Touch (· = b) w w') (ho : SoObj w' b bo bc ba n vk vw S') (h1 : S'.ord = S.ord) (h2 : S'.cls = S.cls) (h3 : S'.asd = S.asd) (h4 : S'.ps = S.ps) : IsSo B w' b bo bc ba vk vw n kb S' := by
  obtain ⟨a1, a2, a3, a4, a5, a6⟩ := h.apart
  exact ⟨ho, by rw [h1]; exact h.ro.other ht (fun e => a1 e.symm), by rw [h2]; exact h.rc.other ht (fun e => a2 e.symm), by rw [h3]; exact h.ra.other ht (fun e => a3 e.symm), by rw [h1]; exact h.lo, by rw [h2]; exact h.lc, by rw [h3]; exact h.la,
    by rw [h4]; exact h.wt.same (fun k hk => ht.block k (h.wt.lt k hk).2 (h.wap k hk).1), h.apart, h.wap, h.base, fun g hg => ⟨Nat.lt_of_lt_of_le (h.kap g hg).1 ht.size, (h.kap g hg).2⟩⟩
theorem IsSo.below (h : IsSo B w b bo bc ba vk vw n kb S) (ht : Below w.heap.size w w') : IsSo B w' b bo bc ba vk vw n kb S := by
  have t := Touch.ofBelow (S := fun _ => False) ht
  exact ⟨h.obj.other t (fun e => e), h.ro.other t (fun e => e), h.rc.other t (fun e => e), h.ra.other t (fun e => e), h.lo, h.lc, h.la, h.wt.same (fun k hk => t.block k (h.wt.lt k hk).2 (fun e => e)), h.apart, h.wap, h.base, fun g hg => ⟨Nat.lt_of_lt_of_le (h.kap g hg).1 ht.size, (h.kap g hg).2⟩⟩
theorem IsSo.drewN (h : IsSo B w b bo bc ba vk vw n kb S) (m : Nat) : IsSo B (w.drewN m) b bo bc ba vk vw n kb S := ⟨h.obj, h.ro, h.rc, h.ra, h.lo, h.lc, h.la, h.wt, h.apart, h.wap, h.base, h.kap⟩
/-- The order's row has turned. -/
theorem IsSo.inOrd (h : IsSo B w b bo bc ba vk vw n kb S) (ht : Touch (· = bo) w w') (l : List Nat) (hl : l.length = n) (hr : RowI w' bo (toI l)) : IsSo B w' b bo bc ba vk vw n kb { S with ord := l } := by
  obtain ⟨a1, a2, a3, a4, a5, a6⟩ := h.apart
  obtain ⟨F, o1, o2⟩ := h.obj
  exact ⟨⟨F, o1.other ht (fun e => a1 e), ⟨o2.f0, o2.f1, o2.f2, o2.f3, o2.f4, o2.f5, o2.f6, o2.f7, o2.f8, o2.f9, o2.f10⟩⟩, hr, h.rc.other ht (fun e => a4 e.symm), h.ra.other ht (fun e => a5 e.symm), hl, h.lc, h.la, h.wt.same (fun k hk => ht.block k (h.wt.lt k hk).2 (h.wap k hk).2.1), h.apart, h.wap, h.base,
    fun g hg => ⟨Nat.lt_of_lt_of_le (h.kap g hg).1 ht.size, (h.kap g hg).2⟩⟩
/-- The row of those laid aside has turned. -/
theorem IsSo.inAsd (h : IsSo B w b bo bc ba vk vw n kb S) (ht : Touch (· = ba) w w') (l : List Nat) (hl : l.length = n) (hr : RowI w' ba (toI l)) : IsSo B w' b bo bc ba vk vw n kb { S with asd := l } := by
  obtain ⟨a1, a2, a3, a4, a5, a6⟩ := h.apart
  obtain ⟨F, o1, o2⟩ := h.obj
  exact ⟨⟨F, o1.other ht (fun e => a3 e), ⟨o2.f0, o2.f1, o2.f2, o2.f3, o2.f4, o2.f5, o2.f6, o2.f7, o2.f8, o2.f9, o2.f10⟩⟩, h.ro.other ht (fun e => a5 e), h.rc.other ht (fun e => a6 e), hr, h.lo, h.lc, hl, h.wt.same (fun k hk => ht.block k (h.wt.lt k hk).2 (h.wap k hk).2.2.2), h.apart, h.wap, h.base,
    fun g hg => ⟨Nat.lt_of_lt_of_le (h.kap g hg).1 ht.size, (h.kap g hg).2⟩⟩
/-- The boxes of the key are as they were. -/
def KbSame (w w' : World) (kb : List Nat) : Prop := ∀ g ∈ kb, w'.heap[g]? = w.heap[g]?
theorem IsSo.kb_touch (h : IsSo B w b bo bc ba vk vw n kb S) {X : Nat → Prop} (ht : Touch X w w') (hX : ∀ k, X k → k = b ∨ k = bo ∨ k = bc ∨ k = ba ∨ vw.ownBlock = some k) : KbSame w w' kb := fun g hg => by
  obtain ⟨h1, h2, h3, h4, h5, h6⟩ := h.kap g hg
  refine ht.block g h1 (fun hx => ?_)
  rcases hX g hx with e | e | e | e | e
  · exact h2 e
  · exact h3 e
  · exact h4 e
  · exact h5 e
  · exact h6 e
theorem IsSo.at (h : IsSo B w b bo bc ba vk vw n kb S) (hb : B ≤ w.heap.size) : ∀ k, k = b ∨ k = bo ∨ k = bc ∨ k = ba ∨ vw.ownBlock = some k → B ≤ k := fun k hk => by
  obtain ⟨h1, h2, h3, h4⟩ := h.base
  rcases hk with rfl | rfl | rfl | rfl | hk
  · exact h1
  · exact h2
  · exact h3
  · exact h4
  · exact (h.wt.lt k hk).1
end
end Go.Proofs.Ytfedhppcmmponaa

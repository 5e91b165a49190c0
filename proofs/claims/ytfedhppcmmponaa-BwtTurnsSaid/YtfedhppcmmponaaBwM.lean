/-
  MERGED by merge.py out of: BwA BwB BwC BwD BwE BwF BwG.
-/
import Derived.Test.YtfedhppcmmponaaSrtO
import Derived.Test.YtfedhppcmmponaaRowsRR
import Derived.Test.YtfedhppcmmponaaRotLawB
import Derived.Test.YtfedhppcmmponaaSrtD
import Derived.Test.YtfedhppcmmponaaRegK
import Derived.Test.YtfedhppcmmponaaSrtN
namespace Go.Proofs.Ytfedhppcmmponaa
open Go.RowKit BwtM SrtM PkM
set_option linter.unusedVariables false
set_option linter.unusedSimpArgs false
/-- The byte just ahead of a place, going round. -/
def lastB (T : List UInt8) (p : Nat) : UInt8 := T.getD ((if p = 0 then T.length else p) - 1) 0
theorem lastB_rot {T : List UInt8} {p : Nat} (hp : p < T.length) : lastB T p = (rot T p).getLastD 0 := by
  have hl := rot_len T p (Nat.le_of_lt hp)
  have h1 : (rot T p).getLastD 0 = (rot T p).getD (T.length - 1) 0 := by
    rw [List.getLastD_eq_getLast?, List.getLast?_eq_getElem?, hl, List.getD_eq_getElem?_getD]
  rw [h1]
  apply UInt8.toNat.inj
  rw [rot_getD T (Nat.le_of_lt hp) (by omega)]
  unfold lastB
  by_cases h0 : p = 0
  · rw [if_pos h0, h0, Nat.zero_add, bt_in T (by omega)]
  · rw [if_neg h0, bt_on T (by omega) (by omega), show p + (T.length - 1) - T.length = p - 1 by omega]
set_option maxHeartbeats 1000000 in
theorem bahead_any (s : ByteArray) (p : Nat) (w : World) (hs : s.size ≤ 1000000) (hp : p < s.size) : Calls Try.prog 64 #[.string s, .int .i64 (p : Int)] w fun e w' => e = .returned (.int .u8 ((lastB s.data.toList p).toNat : Int)) ∧ w' = w := by
  have hl := txt_len s
  by_cases h0 : p = 0
  · subst h0
    obtain ⟨j, hj⟩ : ∃ j, s.size - 1 = j := ⟨_, rfl⟩
    have hjs : j < s.size := by omega
    have hb := bt_get s hjs
    have hx : (lastB s.data.toList 0).toNat = bt s.data.toList j := by
      unfold lastB
      rw [if_pos rfl, hl, hj, bt_in _ (by rw [hl]; exact hjs)]
    rw [hx]
    generalize bt s.data.toList j = x at *
    have hji : (s.size : Int) - 1 = (j : Int) := by omega
    have hjw : IntKind.i64.wrap (j : Int) = (j : Int) := IntWalk.i64_in _ (by omega)
    have hjl : (j : Int) < (s.size : Int) := by omega
    clear hx hl hj
    go_enter Try.func64, Try.ntmps64
    go_wp2_with fail
    go_ret
    exact ⟨rfl, rfl⟩
  · obtain ⟨j, hj⟩ : ∃ j, p - 1 = j := ⟨_, rfl⟩
    have hjs : j < s.size := by omega
    have hb := bt_get s hjs
    have hx : (lastB s.data.toList p).toNat = bt s.data.toList j := by
      unfold lastB
      rw [if_neg h0, hj, bt_in _ (by rw [hl]; exact hjs)]
    rw [hx]
    generalize bt s.data.toList j = x at *
    have hji : (p : Int) - 1 = (j : Int) := by omega
    have hjw : IntKind.i64.wrap (j : Int) = (j : Int) := IntWalk.i64_in _ (by omega)
    have hjl : (j : Int) < (s.size : Int) := by omega
    have hp0 : ((p : Int) == 0) = false := by rw [beq_eq_false_iff_ne]; omega
    clear hx hl hj h0
    go_enter Try.func64, Try.ntmps64
    go_wp2_with fail
    go_ret
    exact ⟨rfl, rfl⟩
/-- A row of bytes, the call's own from block B on. -/
def OwnY (W : World) (B : Nat) (v : Value) (l : List UInt8) : Prop := W.ownsRow B 5 1 v l.length (l.map u8v)
theorem OwnY.nil (W : World) (B : Nat) : OwnY W B (.slice none 0 0) [] := World.ownsRow_nil _ _ _ _
theorem OwnY.slice {W : World} {B : Nat} {v : Value} {l : List UInt8} (h : OwnY W B v l) : ∃ a cap, v = .slice a l.length cap := slice_of_own h
theorem OwnY.lt {W : World} {B : Nat} {v : Value} {l : List UInt8} (h : OwnY W B v l) : ∀ k, v.ownBlock = some k → B ≤ k ∧ k < W.heap.size := World.ownsRow.lt h
theorem OwnY.same {W W' : World} {B : Nat} {v : Value} {l : List UInt8} (h : OwnY W B v l) (he : ∀ k, v.ownBlock = some k → W'.heap[k]? = W.heap[k]?) : OwnY W' B v l := ownsRow_other h he
theorem info_byte : (Try.prog.info? 5).map (fun i => (i.zero, i.size, i.bytes)) = some (some (.int .u8 0), 1, 1) := by kernel_rfl
set_option maxHeartbeats 1000000 in
/-- 'append' of one byte, where an operation of a region that draws its order stands. -/
theorem step_push_byte {ops : Array Oper} {o : Oper} {a : Act} {K : Act → World → Prop} {Q : Exit → Act → World → Prop} {E : Prop} (W : World) (hg : o.guard = none) (s x : Operand)
    (ho : o.op = .call { callee := .builtin .append, args := #[s, x], argTypes := #[40, 40] })
    (B G : Nat) (v : Value) (l : List UInt8) (y : UInt8) (hown : OwnY W B v l) (hs : a.eval s = v) (hx : a.eval x = .slice (some ⟨G, 0, none⟩) 1 1) (hG : W.cell? ⟨G, 0, none⟩ = some (u8v y))
    (hlen : l.length ≤ 1000000) (hb : B ≤ W.heap.size)
    (h : ∀ v' w', OwnY w' B v' (l ++ [y]) → Below B W w' → (∀ k, k < W.heap.size → v.ownBlock ≠ some k → w'.heap[k]? = W.heap[k]?) → (∀ k, v'.ownBlock = some k → v.ownBlock = some k ∨ W.heap.size ≤ k) → K (a.put o.dst v') w') :
    if Region.wanted o (yielded ops a.tmps) = true then Oper.wp Try.prog o a W K Q else E := by
  obtain ⟨i0, hi, hz0, hz1, hz2⟩ := info_parts info_byte
  refine step_append_own' hg s x 40 ho B 5 i0 (.int .u8 0) 1 1 Try.underlying40 hi hz0 hz1 hz2 rfl (by decide) v l.length (l.map u8v) hs hown ⟨G, 0, none⟩ 1 1 [u8v y] hx rfl ?_ ?_ ?_ ?_ hb ?_
  · intro j u hu
    have hj : j < 1 := (List.getElem?_eq_some_iff.1 hu).1
    obtain rfl : j = 0 := by omega
    have e : u8v y = u := by simpa using hu
    rw [Addr.add_lit, ← e]
    exact hG
  · intro u hu
    rw [List.mem_singleton] at hu
    subst hu
    rfl
  · unfold maxLen; omega
  · omega
  · intro v' w' hown' hg' hv
    refine h v' w' ?_ (Below.grown (Below.refl B W) hg' hb (fun j hj => (World.ownsRow.lt hown j hj).1)) (fun k hk hne => hg'.block k hk (fun e => hne e.symm)) hv
    unfold OwnY
    rw [List.length_append, List.map_append]
    exact hown'
/-! ### The turner -/
structure TuF (F : Nat → Value) (s : ByteArray) (sp : Value) (held : Nat) (ov vw : Value) (og st : Nat) : Prop where
  f0 : F 0 = .string s
  f1 : F 1 = sp
  f2 : F 2 = .int .i64 (held : Int)
  f3 : F 3 = ov
  f4 : F 4 = vw
  f5 : F 5 = .int .i64 (og : Int)
  f6 : F 6 = .int .i64 (st : Int)
def TuObj (w : World) (t : Nat) (s : ByteArray) (sp : Value) (held : Nat) (ov vw : Value) (og st : Nat) : Prop := ∃ F, ObjF 7 70 w t F ∧ TuF F s sp held ov vw og st
section
variable {B : Nat} {w w' : World} {t : Nat} {s : ByteArray} {sp ov vw : Value} {held og st : Nat} {zs : List Int} {l : List UInt8}
theorem TuObj.cells (h : TuObj w t s sp held ov vw og st) : w.cell? ⟨t, 0, none⟩ = some (.string s) ∧ w.cell? ⟨t, 1, none⟩ = some sp ∧ w.cell? ⟨t, 2, none⟩ = some (.int .i64 (held : Int)) ∧ w.cell? ⟨t, 3, none⟩ = some ov ∧ w.cell? ⟨t, 4, none⟩ = some vw ∧
    w.cell? ⟨t, 5, none⟩ = some (.int .i64 (og : Int)) ∧ w.cell? ⟨t, 6, none⟩ = some (.int .i64 (st : Int)) := by
  obtain ⟨F, h1, h2⟩ := h
  refine ⟨?_, ?_, ?_, ?_, ?_, ?_, ?_⟩
  · rw [(h1.cell (i := 0) (by omega)).1, h2.f0]
  · rw [(h1.cell (i := 1) (by omega)).1, h2.f1]
  · rw [(h1.cell (i := 2) (by omega)).1, h2.f2]
  · rw [(h1.cell (i := 3) (by omega)).1, h2.f3]
  · rw [(h1.cell (i := 4) (by omega)).1, h2.f4]
  · rw [(h1.cell (i := 5) (by omega)).1, h2.f5]
  · rw [(h1.cell (i := 6) (by omega)).1, h2.f6]
theorem TuObj.frozen (h : TuObj w t s sp held ov vw og st) (i : Nat) (hi : i < 7) : w.frozen? ⟨t, i, none⟩ = false := by
  obtain ⟨F, h1, h2⟩ := h
  exact (h1.cell hi).2
theorem TuObj.lt (h : TuObj w t s sp held ov vw og st) : t < w.heap.size := by
  obtain ⟨F, h1, h2⟩ := h
  exact h1.lt
theorem TuObj.other (h : TuObj w t s sp held ov vw og st) {X : Nat → Prop} (ht : Touch X w w') (hX : ¬ X t) : TuObj w' t s sp held ov vw og st := by
  obtain ⟨F, h1, h2⟩ := h
  exact ⟨F, h1.other ht hX, h2⟩
theorem TuObj.set1 (h : TuObj w t s sp held ov vw og st) (x : Value) : TuObj (w.setCell ⟨t, 1, none⟩ x) t s x held ov vw og st := by
  obtain ⟨F, h1, h2⟩ := h
  exact ⟨_, h1.set 1 _, (upd_ne _ _ (by omega)).trans h2.f0, upd_same _ _ _, (upd_ne _ _ (by omega)).trans h2.f2, (upd_ne _ _ (by omega)).trans h2.f3, (upd_ne _ _ (by omega)).trans h2.f4, (upd_ne _ _ (by omega)).trans h2.f5, (upd_ne _ _ (by omega)).trans h2.f6⟩
theorem TuObj.set3 (h : TuObj w t s sp held ov vw og st) (x : Value) : TuObj (w.setCell ⟨t, 3, none⟩ x) t s sp held x vw og st := by
  obtain ⟨F, h1, h2⟩ := h
  exact ⟨_, h1.set 3 _, (upd_ne _ _ (by omega)).trans h2.f0, (upd_ne _ _ (by omega)).trans h2.f1, (upd_ne _ _ (by omega)).trans h2.f2, upd_same _ _ _, (upd_ne _ _ (by omega)).trans h2.f4, (upd_ne _ _ (by omega)).trans h2.f5, (upd_ne _ _ (by omega)).trans h2.f6⟩
theorem TuObj.set4 (h : TuObj w t s sp held ov vw og st) (x : Value) : TuObj (w.setCell ⟨t, 4, none⟩ x) t s sp held ov x og st := by
  obtain ⟨F, h1, h2⟩ := h
  exact ⟨_, h1.set 4 _, (upd_ne _ _ (by omega)).trans h2.f0, (upd_ne _ _ (by omega)).trans h2.f1, (upd_ne _ _ (by omega)).trans h2.f2, (upd_ne _ _ (by omega)).trans h2.f3, upd_same _ _ _, (upd_ne _ _ (by omega)).trans h2.f5, (upd_ne _ _ (by omega)).trans h2.f6⟩
theorem TuObj.set5 (h : TuObj w t s sp held ov vw og st) (x : Nat) : TuObj (w.setCell ⟨t, 5, none⟩ (.int .i64 (x : Int))) t s sp held ov vw x st := by
  obtain ⟨F, h1, h2⟩ := h
  exact ⟨_, h1.set 5 _, (upd_ne _ _ (by omega)).trans h2.f0, (upd_ne _ _ (by omega)).trans h2.f1, (upd_ne _ _ (by omega)).trans h2.f2, (upd_ne _ _ (by omega)).trans h2.f3, (upd_ne _ _ (by omega)).trans h2.f4, upd_same _ _ _, (upd_ne _ _ (by omega)).trans h2.f6⟩
theorem TuObj.set6 (h : TuObj w t s sp held ov vw og st) (x : Nat) : TuObj (w.setCell ⟨t, 6, none⟩ (.int .i64 (x : Int))) t s sp held ov vw og x := by
  obtain ⟨F, h1, h2⟩ := h
  exact ⟨_, h1.set 6 _, (upd_ne _ _ (by omega)).trans h2.f0, (upd_ne _ _ (by omega)).trans h2.f1, (upd_ne _ _ (by omega)).trans h2.f2, (upd_ne _ _ (by omega)).trans h2.f3, (upd_ne _ _ (by omega)).trans h2.f4, (upd_ne _ _ (by omega)).trans h2.f5, upd_same _ _ _⟩
end
/-- How the row of places may stand. -/
def OrdV (ov : Value) : Prop := ov = .slice none 0 0 ∨ ∃ bo off n cap, ov = .slice (some ⟨bo, off, none⟩) n cap ∧ n ≤ cap ∧ cap ≤ 9223372036854775807
/-- A turner at block t: the row zs of places is to be taken, the bytes l were. -/
structure IsTu (B : Nat) (w : World) (t : Nat) (s : ByteArray) (sp : Value) (held : Nat) (zs : List Int) (l : List UInt8) (og st : Nat) (ov vw : Value) : Prop where
  obj : TuObj w t s sp held ov vw og st
  row : IsInts w ov zs
  last : OwnY w B vw l
  oap : ov.ownBlock ≠ some t
  lap : ∀ j, vw.ownBlock = some j → j ≠ t ∧ ov.ownBlock ≠ some j
  base : B ≤ t
  olt : ∀ j, ov.ownBlock = some j → j < w.heap.size
  oin : OrdV ov
section
variable {B : Nat} {w w' : World} {t : Nat} {s : ByteArray} {sp ov vw : Value} {held og st : Nat} {zs : List Int} {l : List UInt8}
/-- Only the turner's own cells have turned. -/
theorem IsTu.own {sp' : Value} {held' og' st' : Nat} (h : IsTu B w t s sp held zs l og st ov vw) (ht : Touch (· = t) w w') (ho : TuObj w' t s sp' held' ov vw og' st') : IsTu B w' t s sp' held' zs l og' st' ov vw :=
  ⟨ho, h.row.same (fun k hk => ht.block k (h.olt k hk) (fun e => h.oap (by rw [← e]; exact hk))), h.last.same (fun k hk => ht.block k (h.last.lt k hk).2 (h.lap k hk).1), h.oap, h.lap, h.base, fun j hj => Nat.lt_of_lt_of_le (h.olt j hj) ht.size, h.oin⟩
theorem IsTu.other (h : IsTu B w t s sp held zs l og st ov vw) {X : Nat → Prop} (ht : Touch X w w') (h1 : ¬ X t) (h2 : ∀ k, ov.ownBlock = some k → ¬ X k) (h3 : ∀ k, vw.ownBlock = some k → ¬ X k) : IsTu B w' t s sp held zs l og st ov vw :=
  ⟨h.obj.other ht h1, h.row.same (fun k hk => ht.block k (h.olt k hk) (h2 k hk)), h.last.same (fun k hk => ht.block k (h.last.lt k hk).2 (h3 k hk)), h.oap, h.lap, h.base, fun j hj => Nat.lt_of_lt_of_le (h.olt j hj) ht.size, h.oin⟩
theorem IsTu.below (h : IsTu B w t s sp held zs l og st ov vw) (ht : Below w.heap.size w w') : IsTu B w' t s sp held zs l og st ov vw :=
  h.other (Touch.ofBelow (S := fun _ => False) ht) (fun e => e) (fun _ _ e => e) (fun _ _ e => e)
/-- One more byte was taken. -/
theorem IsTu.grown {vw' : Value} {l' : List UInt8} (h : IsTu B w t s sp held zs l og st ov vw) (ht : Pushed w w' vw vw') (hw : OwnY w' B vw' l') : IsTu B (w'.setCell ⟨t, 4, none⟩ vw') t s sp held zs l' og st ov vw' ∧
    Touch (fun k => k = t ∨ vw.ownBlock = some k) w (w'.setCell ⟨t, 4, none⟩ vw') := by
  have tt : Touch (fun k => vw.ownBlock = some k) w w' := ⟨ht.os, ht.tape, ht.output, ht.size, fun k hk hn => ht.block k hk hn⟩
  have t2 : Touch (· = t) w' (w'.setCell ⟨t, 4, none⟩ vw') := touch_cell (Touch.refl _ _)
  have h1 : TuObj w' t s sp held ov vw og st := h.obj.other tt (fun e => (h.lap t e).1 rfl)
  have hlap : ∀ j, vw'.ownBlock = some j → j ≠ t ∧ ov.ownBlock ≠ some j := fun j hj => by
    rcases ht.own j hj with e | e
    · exact h.lap j e
    · have l1 := h.obj.lt
      exact ⟨by omega, fun e2 => by have := h.olt j e2; omega⟩
  have hrow : IsInts w' ov zs := h.row.same (fun k hk => tt.block k (h.olt k hk) (fun e => (h.lap k e).2 hk))
  have hsz := ht.size
  exact ⟨⟨h1.set4 vw', hrow.same (fun k hk => t2.block k (Nat.lt_of_lt_of_le (h.olt k hk) hsz) (fun e => h.oap (by rw [← e]; exact hk))), hw.same (fun k hk => t2.block k (hw.lt k hk).2 (hlap k hk).1), h.oap, hlap, h.base, fun j hj => Nat.lt_of_lt_of_le (h.olt j hj) (Nat.le_trans hsz t2.size), h.oin⟩,
    (tt.mono (fun _ h => Or.inr h)).trans (t2.mono (fun _ h => Or.inl h)) (fun _ h => Or.inl h)⟩
/-- Some places are no more to be taken. -/
theorem IsTu.setRow {ov' : Value} {zs' : List Int} (h : IsTu B w t s sp held zs l og st ov vw) (hr : IsInts w ov' zs') (h1 : ov'.ownBlock ≠ some t) (h2 : ∀ j, vw.ownBlock = some j → ov'.ownBlock ≠ some j) (h3 : ∀ j, ov'.ownBlock = some j → j < w.heap.size) (h4 : OrdV ov') : IsTu B (w.setCell ⟨t, 3, none⟩ ov') t s sp held zs' l og st ov' vw := by
  have t2 : Touch (· = t) w (w.setCell ⟨t, 3, none⟩ ov') := touch_cell (Touch.refl _ _)
  exact ⟨h.obj.set3 ov', hr.same (fun k hk => t2.block k (h3 k hk) (fun e => h1 (by rw [← e]; exact hk))), h.last.same (fun k hk => t2.block k (h.last.lt k hk).2 (h.lap k hk).1), h1, fun j hj => ⟨(h.lap j hj).1, h2 j hj⟩, h.base, fun j hj => Nat.lt_of_lt_of_le (h3 j hj) t2.size, h4⟩
/-! ### What is told -/
set_option maxHeartbeats 400000 in
theorem bsteps_any (h : IsTu B w t s sp held zs l og st ov vw) : Calls Try.prog 37 #[.pointer (some ⟨t, 0, none⟩)] w fun e w' => e = .returned (.int .i64 (st : Int)) ∧ w' = w := by
  obtain ⟨_, _, _, _, _, _, c6⟩ := h.obj.cells
  go_enter Try.func37, Try.ntmps37
  go_wp2_with fail
  go_ret
  exact ⟨rfl, rfl⟩
set_option maxHeartbeats 400000 in
theorem bheld_any (h : IsTu B w t s sp held zs l og st ov vw) (hh : held ≤ 10000000) (hl : l.length ≤ 1000000) : Calls Try.prog 39 #[.pointer (some ⟨t, 0, none⟩)] w fun e w' => e = .returned (.int .i64 ((held + l.length : Nat) : Int)) ∧ ∃ m, w' = w.drewN m := by
  obtain ⟨_, _, c2, _, c4, _, _⟩ := h.obj.cells
  obtain ⟨a, cap, rfl⟩ := h.last.slice
  obtain ⟨n, hn⟩ : ∃ n, l.length = n := ⟨_, rfl⟩
  rw [hn] at c4 hl ⊢
  obtain ⟨q, hq⟩ : ∃ q, held + n = q := ⟨_, rfl⟩
  have hqi : (held : Int) + (n : Int) = (q : Int) := by omega
  have hqw : IntKind.i64.wrap (q : Int) = (q : Int) := IntWalk.i64_in _ (by omega)
  rw [hq]
  clear h hn hq
  go_enter Try.func39, Try.ntmps39
  go_wp2_with fail
  go_quiet (fail)
  go_wp2_with fail
  go_ret
  exact ⟨rfl, _, rfl⟩
set_option maxHeartbeats 1000000 in
theorem bdone_any (h : IsTu B w t s sp held zs l og st ov vw) (hs : 0 < s.size) (hs2 : s.size ≤ 1000000) (hl : l.length ≤ 1000000) : Calls Try.prog 38 #[.pointer (some ⟨t, 0, none⟩)] w fun e w' => e = .returned (.bool (l.length == s.size)) ∧ ∃ m, w' = w.drewN m := by
  obtain ⟨c0, _, _, _, c4, _, _⟩ := h.obj.cells
  obtain ⟨a, cap, rfl⟩ := h.last.slice
  obtain ⟨n, hn⟩ : ∃ n, l.length = n := ⟨_, rfl⟩
  rw [hn] at c4 hl ⊢
  have hemp := some_bytes s hs
  obtain ⟨r, hr⟩ : ∃ r, (n == s.size) = r := ⟨_, rfl⟩
  have hri : ((n : Int) == (s.size : Int)) = r := by rw [← hr, Bool.eq_iff_iff, beq_iff_eq, beq_iff_eq]; omega
  rw [hr]
  clear h hn hr
  go_enter Try.func38, Try.ntmps38
  go_wp2_with fail
  go_quiet (fail)
  go_wp2_with fail
  go_ret
  exact ⟨rfl, _, rfl⟩
set_option maxHeartbeats 1000000 in
theorem bresult_no (h : IsTu B w t s sp held zs l og st ov vw) (hs : 0 < s.size) (hs2 : s.size ≤ 1000000) (hl : l.length < s.size) : Calls Try.prog 40 #[.pointer (some ⟨t, 0, none⟩)] w fun e w' => e = .returned (.tuple #[.string ⟨#[]⟩, .int .i64 0]) ∧ ∃ m, w' = w.drewN m := by
  have HD := Lib.hid (bdone_any h hs hs2 (by omega))
  rw [show (l.length == s.size) = false by rw [beq_eq_false_iff_ne]; omega] at HD
  clear h
  go_enter Try.func40, Try.ntmps40
  go_wp2_with fail
  refine HD.out.mono ?_
  rintro e w2 ⟨rfl, m, rfl⟩
  go_wp2_with fail
  go_ret2
  exact ⟨rfl, m, rfl⟩
set_option maxHeartbeats 1000000 in
theorem bresult_yes (h : IsTu B w t s sp held zs l og st ov vw) (hs : 0 < s.size) (hs2 : s.size ≤ 1000000) (hl : l.length = s.size) : Calls Try.prog 40 #[.pointer (some ⟨t, 0, none⟩)] w fun e w' => e = .returned (.tuple #[.string ⟨l.toArray⟩, .int .i64 (og : Int)]) ∧ ∃ m, w' = w.drewN m := by
  have HD := Lib.hid (bdone_any h hs hs2 (by omega))
  rw [show (l.length == s.size) = true by rw [beq_iff_eq]; exact hl] at HD
  obtain ⟨_, _, _, _, c4, c5, _⟩ := h.obj.cells
  have HL := Lib.hid h.last
  have HCV := fun m => conv_row (W := w.drewN m) h.last
  clear h hl
  go_enter Try.func40, Try.ntmps40
  go_wp2_with fail
  refine HD.out.mono ?_
  rintro e w2 ⟨rfl, m, rfl⟩
  go_wp2_with fail
  go_quiet (fail)
  go_wp2_with fail
  go_ret2
  exact ⟨rfl, _, by rw [World.drewN_drewN]⟩
end
/-! ### What is told of nil -/
set_option maxHeartbeats 400000 in
theorem bsteps_nil (w : World) : Calls Try.prog 37 #[.pointer none] w fun e w' => e = .returned (.int .i64 0) ∧ w' = w := by
  go_enter Try.func37, Try.ntmps37
  go_wp2_with fail
  go_ret
  exact ⟨rfl, rfl⟩
set_option maxHeartbeats 400000 in
theorem bheld_nil (w : World) : Calls Try.prog 39 #[.pointer none] w fun e w' => e = .returned (.int .i64 0) ∧ w' = w := by
  go_enter Try.func39, Try.ntmps39
  go_wp2_with fail
  go_ret
  exact ⟨rfl, rfl⟩
set_option maxHeartbeats 400000 in
theorem bstep_nil (k : Int) (w : World) : Calls Try.prog 36 #[.pointer none, .int .i64 k] w fun e w' => e = .returned (.int .i64 0) ∧ w' = w := by
  go_enter Try.func36, Try.ntmps36
  go_wp2_with fail
  go_ret
  exact ⟨rfl, rfl⟩
set_option maxHeartbeats 400000 in
theorem bdone_nil (w : World) : Calls Try.prog 38 #[.pointer none] w fun e w' => e = .returned (.bool false) ∧ ∃ m, w' = w.drewN m := by
  go_enter Try.func38, Try.ntmps38
  go_wp2_with fail
  go_quiet (fail)
  go_wp2_with fail
  go_ret
  exact ⟨rfl, _, rfl⟩
set_option maxHeartbeats 400000 in
theorem bresult_nil (w : World) : Calls Try.prog 40 #[.pointer none] w fun e w' => e = .returned (.tuple #[.string ⟨#[]⟩, .int .i64 0]) ∧ ∃ m, w' = w.drewN m := by
  go_enter Try.func40, Try.ntmps40
  go_wp2_with fail
  refine (bdone_nil w).mono ?_
  rintro e w2 ⟨rfl, m, rfl⟩
  go_wp2_with fail
  go_ret2
  exact ⟨rfl, m, rfl⟩
end Go.Proofs.Ytfedhppcmmponaa
namespace Go.Proofs.Ytfedhppcmmponaa
open Go.RowKit BwtM SrtM PkM
set_option linter.unusedVariables false
set_option linter.unusedSimpArgs false
/-- Where the place 0 stood among the first k. -/
def orgN (P : List Nat) : Nat → Nat
  | 0 => 0
  | k + 1 => if P.getD k 0 = 0 then k else orgN P k
theorem orgN_le (P : List Nat) : ∀ k, orgN P k ≤ k
  | 0 => Nat.le_refl _
  | k + 1 => by
    unfold orgN
    have := orgN_le P k
    split <;> omega
def lastN (T : List UInt8) (P : List Nat) (k : Nat) : List UInt8 := (P.take k).map (lastB T)
theorem lastN_next {T : List UInt8} {P : List Nat} {k : Nat} (h : k < P.length) : lastN T P (k + 1) = lastN T P k ++ [lastB T (P.getD k 0)] := by
  unfold lastN
  rw [List.take_succ_eq_append_getElem h, List.map_append, List.getD_eq_getElem?_getD, List.getElem?_eq_getElem h]
  rfl
theorem lastN_len {T : List UInt8} {P : List Nat} {k : Nat} (h : k ≤ P.length) : (lastN T P k).length = k := by unfold lastN; rw [List.length_map, List.length_take]; omega
theorem osl_h (b off n cap g : Nat) (h1 : g ≤ n) (h2 : n ≤ cap) (h3 : cap ≤ 9223372036854775807) (W : World) : (Instr.slice 23 (.slice (some ⟨b, off, none⟩) n cap) none (some (.int .i64 (g : Int))) none).run Try.prog W = .ok (.slice (some ⟨b, off, none⟩) g cap) W := by
  have hs : (sizeOf (Try.prog.elem 23)).run Try.prog W = .ok 1 W := by kernel_rfl
  rw [run_slice_h W 23 (some ⟨b, off, none⟩) n cap (by kernel_rfl) .i64 _ (by omega) (by omega), hs]
  have e1 : ((g : Int)).toNat = g := by omega
  simp [Result.andThen, sliced, e1, Addr.add]
theorem osl_l (b off n cap g : Nat) (h1 : g ≤ n) (h2 : n ≤ cap) (h3 : cap ≤ 9223372036854775807) (W : World) : (Instr.slice 23 (.slice (some ⟨b, off, none⟩) n cap) (some (.int .i64 (g : Int))) none none).run Try.prog W = .ok (.slice (some ⟨b, if cap = g then off else off + g, none⟩) (n - g) (cap - g)) W := by
  have hs : (sizeOf (Try.prog.elem 23)).run Try.prog W = .ok 1 W := by kernel_rfl
  rw [run_slice_l W 23 (some ⟨b, off, none⟩) n cap (by kernel_rfl) .i64 _ (by omega) (by omega), hs]
  have e1 : ((g : Int)).toNat = g := by omega
  by_cases e3 : cap = g
  · simp [Result.andThen, sliced, e1, e3]
  · simp [Result.andThen, sliced, e1, e3, Addr.add]
section
variable {B : Nat} {t : Nat} {s : ByteArray} {sp : Value} {held st : Nat}
/-- A turner takes: k of the places P were taken, o are off its row. -/
def TkAt (B : Nat) (w wr : World) (t : Nat) (s : ByteArray) (sp : Value) (held st : Nat) (P : List Nat) (o k : Nat) (ov : Value) : Prop :=
  ∃ vw, IsTu B wr t s sp held (toI (P.drop o)) (lastN s.data.toList P k) (orgN P k) st ov vw ∧ Below B w wr
def TakeP (B : Nat) (w w' : World) (t : Nat) (s : ByteArray) (sp : Value) (held st : Nat) (P : List Nat) (k g : Nat) (e : Ending) : Prop :=
  e = .returned (.int .i64 (g : Int)) ∧ ∃ bo off nn cap vw, IsTu B w' t s sp held (toI (P.drop (k + g))) (lastN s.data.toList P (k + g)) (orgN P (k + g)) st (.slice (some ⟨bo, off, none⟩) nn cap) vw ∧ (P.length - (k + g) = nn ∧ nn ≤ cap ∧ cap ≤ 9223372036854775807) ∧ Below B w w'
set_option maxRecDepth 100000 in
set_option maxHeartbeats 4000000 in
theorem btake_none (w : World) (q : Nat) (vw : Value) (l : List UInt8) (og : Nat) (h : IsTu B w t s sp held [] l og st (.slice none 0 0) vw) (hq : q ≤ 9223372036854775807) (hb : B ≤ w.heap.size) :
    Calls Try.prog 53 #[.pointer (some ⟨t, 0, none⟩), .int .i64 (q : Int)] w fun e w' => e = .returned (.int .i64 0) ∧ IsTu B w' t s sp held [] l og st (.slice none 0 0) vw ∧ Touch (· = t) w w' := by
  obtain ⟨c0, _, _, c3, _⟩ := h.obj.cells
  have e3 := h.obj.frozen 3 (by omega)
  have hmin : min (q : Int) 0 = 0 := by omega
  have HF : Hid (IsTu B (w.setCell ⟨t, 3, none⟩ (.slice none 0 0)) t s sp held [] l og st (.slice none 0 0) vw) := Lib.hid (h.own (touch_cell (Touch.refl _ _)) (h.obj.set3 _))
  have HT : Hid (Touch (· = t) w (w.setCell ⟨t, 3, none⟩ (.slice none 0 0))) := Lib.hid (touch_cell (Touch.refl _ _))
  clear h
  go_enter Try.func53, Try.ntmps53
  go_wp2_with fail
  go_loopw [22] (fun vj wr => vj = .int .i64 0 ∧ wr = w) (fun _ _ => 0)
  case atStart => exact ⟨rfl, rfl⟩
  case round =>
    obtain ⟨rfl, rfl⟩ := hrel
    go_wp2_with fail
    go_ret
    exact ⟨rfl, HF.out, HT.out⟩
set_option maxRecDepth 100000 in
set_option maxHeartbeats 8000000 in
theorem btake_any (w : World) (P : List Nat) (k q : Nat) (bo off cap n : Nat) (vw : Value) (h : IsTu B w t s sp held (toI (P.drop k)) (lastN s.data.toList P k) (orgN P k) st (.slice (some ⟨bo, off, none⟩) n cap) vw) (hP : ∀ p ∈ P, p < s.size) (hk : k ≤ P.length) (hn : P.length - k = n) (hc1 : n ≤ cap) (hc2 : cap ≤ 9223372036854775807) (hPl : P.length ≤ 500000) (hs : s.size ≤ 1000000) (hq : q ≤ 9223372036854775807) (hb : B ≤ w.heap.size) :
    Calls Try.prog 53 #[.pointer (some ⟨t, 0, none⟩), .int .i64 (q : Int)] w fun e w' => TakeP B w w' t s sp held st P k (min q n) e := by
  have hlen : (toI (P.drop k)).length = n := by rw [toI_length, List.length_drop]; exact hn
  have HLEN := Lib.hid hlen
  obtain ⟨g, hg⟩ : ∃ g, min q n = g := ⟨_, rfl⟩
  have hmin : min (q : Int) (n : Int) = (g : Int) := by omega
  obtain ⟨c0, _, _, c3, _⟩ := h.obj.cells
  have H := Lib.hid h
  have hgn : g ≤ n := by omega
  have HP := Lib.hid hP
  rw [hg]
  have HNK : Hid (P.length = k + n) := Lib.hid (by omega)
  have hsl := fun W => osl_h bo off n cap g hgn hc1 hc2 W
  have HB0 : Hid (Below B w w) := Lib.hid (Below.refl _ _)
  have hn5 : n ≤ 500000 := by omega
  have HCELL : Hid (∀ W j, j < n → IsInts W (.slice (some ⟨bo, off, none⟩) n cap) (toI (P.drop k)) → W.cell? ⟨bo, off + j, none⟩ = some (.int .i64 ((P.getD (k + j) 0 : Nat) : Int))) := Lib.hid (fun W j hj hI => by
    obtain ⟨b2, o2, c2, e2, hc⟩ := hI.cell (k := j) (by rw [HLEN.out]; exact hj)
    simp only [Value.slice.injEq, Option.some.injEq, Addr.mk.injEq] at e2
    obtain ⟨⟨rfl, rfl, _⟩, _, _⟩ := e2
    rw [hc, toI_getD, getD_drop])
  clear h hP hlen hn hg
  go_enter Try.func53, Try.ntmps53
  go_wp2_with fail
  go_loopw [22] (fun vj wr => ∃ (j : Nat) (vw : Value), vj = .int .i64 (j : Int) ∧ j ≤ g ∧ IsTu B wr t s sp held (toI (P.drop k)) (lastN s.data.toList P (k + j)) (orgN P (k + j)) st (.slice (some ⟨bo, off, none⟩) n cap) vw ∧ Below B w wr) (fun vj _ => g - (intOf vj).toNat)
  case atStart => exact ⟨0, vw, rfl, Nat.zero_le _, H.out, HB0.out⟩
  case round =>
    clear H HB0 c0 c3
    obtain ⟨j, v1, rfl, hj, hI, hB⟩ := hrel
    have HI := Lib.hid hI
    have HB := Lib.hid hB
    obtain ⟨c0, _, _, c3, c4, c5, _⟩ := hI.obj.cells
    have e3 := hI.obj.frozen 3 (by omega)
    have e4 := hI.obj.frozen 4 (by omega)
    have e5 := hI.obj.frozen 5 (by omega)
    have hll : (lastN s.data.toList P (k + j)).length = k + j := lastN_len (by rw [HNK.out]; omega)
    have HLL := Lib.hid hll
    clear hI hB
    by_cases hjg : j < g
    · have hji : (j : Int) < (g : Int) := by omega
      have cO := HCELL.out wr j (by omega) HI.out.row
      obtain ⟨p, hp⟩ : ∃ p, P.getD (k + j) 0 = p := ⟨_, rfl⟩
      rw [hp] at cO
      have hps : p < s.size := by
        rw [← hp, List.getD_eq_getElem?_getD, List.getElem?_eq_getElem (by rw [HNK.out]; omega)]
        exact HP.out _ (List.getElem_mem _)
      have HPE := Lib.hid hp
      obtain ⟨kj, hkj⟩ : ∃ kj, k + j = kj := ⟨_, rfl⟩
      have HKJ := Lib.hid hkj
      have hkjb : kj ≤ 500000 := by have := HNK.out; omega
      rw [hkj] at HLL HI c5
      have HAH := Lib.hid (fun W => bahead_any s p W hs hps)
      obtain ⟨y, hy⟩ : ∃ y, lastB s.data.toList p = y := ⟨_, rfl⟩
      rw [hy] at HAH
      have HY := Lib.hid hy
      clear hp hkj hy hll
      obtain ⟨a4, cap4, hv4⟩ := HI.out.last.slice
      rw [HLL.out] at hv4
      subst hv4
      by_cases hp0 : p = 0
      · have hp0i : ((p : Int) == 0) = true := by rw [beq_iff_eq]; omega
        have HG0 : Hid (IsTu B (wr.setCell ⟨t, 5, none⟩ (.int .i64 (kj : Int))) t s sp held (toI (P.drop k)) (lastN s.data.toList P kj) (orgN P (kj + 1)) st (.slice (some ⟨bo, off, none⟩) n cap) (.slice a4 kj cap4)) := Lib.hid (by
          have e : orgN P (kj + 1) = kj := by
            show (if P.getD kj 0 = 0 then kj else orgN P kj) = kj
            rw [← HKJ.out, HPE.out, if_pos hp0]
          rw [e]
          exact HI.out.own (touch_cell (Touch.refl _ _)) (HI.out.obj.set5 kj))
        have HBW0 : Hid (Below B w (wr.setCell ⟨t, 5, none⟩ (.int .i64 (kj : Int)))) := Lib.hid (HB.out.setCell (p := ⟨t, 5, none⟩) HI.out.base _)
        clear hp0
        go_wp2_with fail
        generalize wr.setCell ⟨t, 5, none⟩ (.int .i64 (kj : Int)) = wb at *
        have HG := HG0
        have HBW := HBW0
        clear HG0 HBW0 c0 c3 c4 c5 e3 e4 e5
        obtain ⟨c0, _, _, c3, c4, c5, _⟩ := HG.out.obj.cells
        have hSS : (fun W : World => W.cell? ⟨t, 4, none⟩ = some (.slice a4 kj cap4) ∧ W.cell? ⟨t, 0, none⟩ = some (.string s)) wb.drew := ⟨c4, c0⟩
        have hLT : t < wb.drew.heap.size := HG.out.obj.lt
        have hSX : (fun W : World => W.cell? ⟨t, 4, none⟩ = some (.slice a4 kj cap4) ∧ W.cell? ⟨t, 0, none⟩ = some (.string s)) (wb.drew.alloc (.cells #[.int .u8 (y.toNat : Int)] 5)) :=
          ⟨(World.cell?_alloc_some wb.drew _ _ (by rw [hSS.1]; rfl)).trans hSS.1, (World.cell?_alloc_some wb.drew _ _ (by rw [hSS.2]; rfl)).trans hSS.2⟩
        refine wp_region_K 15 (fun W : World => W.cell? ⟨t, 4, none⟩ = some (.slice a4 kj cap4) ∧ W.cell? ⟨t, 0, none⟩ = some (.string s)) (by kernel_rfl) ?_
        refine wpAnyK_take (i := 0) rfl (by kernel_rfl) (by kernel_rfl) (by kernel_rfl) (by kernel_rfl) (fun _ _ _ h => h) (v := ?_) (Or.inl ⟨by rfl, ?_⟩) hSS ?_
        rotate_left
        · rintro W ⟨k4, k0⟩
          go_simp
          try with_reducible rfl
        try simp only [Act.put, List.setIfInBounds_toArray, List.set_cons_zero, List.set_cons_succ]
        refine wpAnyK_take (i := 1) rfl (by kernel_rfl) (by kernel_rfl) (by kernel_rfl) (by kernel_rfl) (fun _ _ _ h => h) (v := ?_) (Or.inl ⟨by rfl, ?_⟩) hSS ?_
        rotate_left
        · rintro W ⟨k4, k0⟩
          go_simp
          try with_reducible rfl
        try simp only [Act.put, List.setIfInBounds_toArray, List.set_cons_zero, List.set_cons_succ]
        refine wpAnyK_take (i := 2) rfl (by kernel_rfl) (by kernel_rfl) (by kernel_rfl) (by kernel_rfl) (fun _ _ _ h => h) (v := ?_) (Or.inl ⟨by rfl, ?_⟩) hSS ?_
        rotate_left
        · rintro W ⟨k4, k0⟩
          go_simp
          try with_reducible rfl
        try simp only [Act.put, List.setIfInBounds_toArray, List.set_cons_zero, List.set_cons_succ]
        refine wpAnyK_take (i := 3) rfl (by kernel_rfl) (by kernel_rfl) (by kernel_rfl) (by kernel_rfl) (fun _ _ _ h => h) (v := ?_) (Or.inl ⟨by rfl, ?_⟩) hSS ?_
        rotate_left
        · rintro W ⟨k4, k0⟩
          go_simp
          try with_reducible rfl
        try simp only [Act.put, List.setIfInBounds_toArray, List.set_cons_zero, List.set_cons_succ]
        refine wpAnyK_take (i := 4) rfl (by kernel_rfl) (by kernel_rfl) (by kernel_rfl) (by kernel_rfl) (fun _ _ _ h => h) (v := ?_) (Or.inl ⟨by rfl, ?_⟩) hSS ?_
        rotate_left
        · rintro W ⟨k4, k0⟩
          go_simp
          try with_reducible rfl
        try simp only [Act.put, List.setIfInBounds_toArray, List.set_cons_zero, List.set_cons_succ]
        refine wpAnyK_take (i := 5) rfl (by kernel_rfl) (by kernel_rfl) (by kernel_rfl) (by kernel_rfl) (fun _ _ _ h => h) (v := ?_) (Or.inl ⟨by rfl, ?_⟩) hSS ?_
        rotate_left
        · rintro W ⟨k4, k0⟩
          go_simp
          try with_reducible rfl
        try simp only [Act.put, List.setIfInBounds_toArray, List.set_cons_zero, List.set_cons_succ]
        refine wpAnyK_take (i := 6) rfl (by kernel_rfl) (by kernel_rfl) (by kernel_rfl) (by kernel_rfl) (fun _ _ _ h => h) (v := ?_) (Or.inl ⟨by rfl, ?_⟩) hSS ?_
        rotate_left
        · rintro W ⟨k4, k0⟩
          go_simp
          try with_reducible rfl
        try simp only [Act.put, List.setIfInBounds_toArray, List.set_cons_zero, List.set_cons_succ]
        refine wpAnyK_take (i := 7) rfl (by kernel_rfl) (by kernel_rfl) (by kernel_rfl) (by kernel_rfl) (fun _ _ _ h => h) (v := ?_) (Or.inl ⟨by rfl, ?_⟩) hSS ?_
        rotate_left
        · rintro W ⟨k4, k0⟩
          go_simp
          try with_reducible rfl
        try simp only [Act.put, List.setIfInBounds_toArray, List.set_cons_zero, List.set_cons_succ]
        refine wpAnyK_take (i := 8) rfl (by kernel_rfl) (by kernel_rfl) (by kernel_rfl) (by kernel_rfl) (fun _ _ _ h => h) (v := ?_) (Or.inl ⟨by rfl, ?_⟩) hSS ?_
        rotate_left
        · rintro W ⟨k4, k0⟩
          go_simp
          try with_reducible rfl
        try simp only [Act.put, List.setIfInBounds_toArray, List.set_cons_zero, List.set_cons_succ]
        refine wpAnyK_take (i := 9) rfl (by kernel_rfl) (by kernel_rfl) (by kernel_rfl) (by kernel_rfl) (fun _ _ _ h => h) (v := ?_) (Or.inl ⟨by rfl, ?_⟩) hSS ?_
        rotate_left
        · rintro W ⟨k4, k0⟩
          go_simp
          try with_reducible rfl
        try simp only [Act.put, List.setIfInBounds_toArray, List.set_cons_zero, List.set_cons_succ]
        refine wpAnyK_ready (rs := [10]) (by kernel_rfl) (by simp) ?_
        intro i hi
        simp only [List.mem_cons, List.not_mem_nil, or_false] at hi
        subst hi
        refine wpOp_in rfl ?_
        intro KC hKC
        go_simp
        go_at_call 64
        refine (HAH.out _).mono ?_
        rintro e wA ⟨rfl, rfl⟩
        refine hKC _ _ ⟨fun _ => hSS, ?_⟩
        try simp only [Act.put, List.setIfInBounds_toArray, List.set_cons_zero, List.set_cons_succ]
        clear hKC
        refine wpAnyK_ready (rs := [11]) (by kernel_rfl) (by simp) ?_
        intro i hi
        simp only [List.mem_cons, List.not_mem_nil, or_false] at hi
        subst hi
        refine wpOp_in rfl ?_
        intro KC hKC
        go_simp
        refine hKC _ _ ⟨fun _ => hSX, ?_⟩
        try simp only [Act.put, List.setIfInBounds_toArray, List.set_cons_zero, List.set_cons_succ]
        clear hKC
        refine wpAnyK_ready (rs := [12]) (by kernel_rfl) (by simp) ?_
        intro i hi
        simp only [List.mem_cons, List.not_mem_nil, or_false] at hi
        subst hi
        refine wpOp_in rfl ?_
        intro KC hKC
        have HOWN : Hid (OwnY (wb.drew.alloc (.cells #[.int .u8 (y.toNat : Int)] 5)) B (.slice a4 kj cap4) (lastN s.data.toList P kj)) := Lib.hid (World.ownsRow.alloc (show wb.drew.ownsRow B 5 1 (.slice a4 kj cap4) _ _ from HG.out.last) _)
        have HBX : Hid ((wb.drew.alloc (.cells #[.int .u8 (y.toNat : Int)] 5)).cell? ⟨wb.heap.size, 0, none⟩ = some (u8v y)) := Lib.hid (by
          have := cell_of_row _ _ 0 _ _ _ (heap_alloc_new wb.drew (.cells #[.int .u8 (y.toNat : Int)] 5))
          exact this)
        have HBZ : Hid (B ≤ (wb.drew.alloc (.cells #[.int .u8 (y.toNat : Int)] 5)).heap.size) := Lib.hid (by
          have h1 := HBW.out.size
          have h2 : wb.drew.heap.size = wb.heap.size := rfl
          simp
          omega)
        refine step_push_byte (wb.drew.alloc (.cells #[.int .u8 (y.toNat : Int)] 5)) (by rfl) _ _ (by rfl) B wb.heap.size (.slice a4 kj cap4) (lastN s.data.toList P kj) y HOWN.out (by rfl) (by rfl) HBX.out (by rw [HLL.out]; omega) HBZ.out ?_
        intro v' w6 hO6 hB6 hk6 hf6
        have hz : (wb.drew.alloc (.cells #[.int .u8 (y.toNat : Int)] 5)).heap.size = wb.heap.size + 1 := by show (wb.heap.push _).size = _; simp
        have kt : w6.heap[t]? = wb.heap[t]? := (hk6 t (by rw [hz]; exact Nat.lt_succ_of_lt hLT) (fun e => (HG.out.lap t e).1 rfl)).trans (alloc_old (w := wb.drew) hLT)
        have hS6 : (fun W : World => W.cell? ⟨t, 4, none⟩ = some (.slice a4 kj cap4) ∧ W.cell? ⟨t, 0, none⟩ = some (.string s)) w6 := ⟨(World.cell?_of_block (w := wb) (a := ⟨t, 4, none⟩) kt).trans c4, (World.cell?_of_block (w := wb) (a := ⟨t, 0, none⟩) kt).trans c0⟩
        have f4 : w6.cell? ⟨t, 4, none⟩ = some (.slice a4 kj cap4) := hS6.1
        have g4 : w6.frozen? ⟨t, 4, none⟩ = false := (World.frozen?_of_block (w := wb) (a := ⟨t, 4, none⟩) kt).trans (HG.out.obj.frozen 4 (by omega))
        refine hKC _ _ ⟨fun _ => hS6, ?_⟩
        try simp only [Act.put, List.setIfInBounds_toArray, List.set_cons_zero, List.set_cons_succ]
        clear hKC
        have HPU : Hid (Pushed wb w6 (.slice a4 kj cap4) v') := Lib.hid ⟨hB6.os, hB6.tape, hB6.output, by have := hB6.size; omega, fun k hk hn => (hk6 k (by omega) hn).trans (alloc_old (w := wb.drew) hk), fun k hk => (hf6 k hk).imp id (fun h => by omega)⟩
        have HO6 : Hid (OwnY w6 B v' (lastN s.data.toList P (kj + 1))) := Lib.hid (by
          rw [lastN_next (by rw [← HKJ.out, HNK.out]; omega), ← HKJ.out, HPE.out, HY.out, HKJ.out]
          exact hO6)
        have HN6 := Lib.hid (HG.out.grown HPU.out HO6.out)
        have HB7 : Hid (Below B w (w6.setCell ⟨t, 4, none⟩ v')) := Lib.hid (HBW.out.trans (HN6.out.2.below (Nat.le_trans hb HBW.out.size) (fun x hx => by
          rcases hx with e | e
          · have := HG.out.base; omega
          · exact (HG.out.last.lt x e).1)))
        have HI7 : Hid (IsTu B (w6.setCell ⟨t, 4, none⟩ v') t s sp held (toI (P.drop k)) (lastN s.data.toList P (k + (j + 1))) (orgN P (k + (j + 1))) st (.slice (some ⟨bo, off, none⟩) n cap) v') := Lib.hid (by
          rw [show k + (j + 1) = kj + 1 by have := HKJ.out; omega]
          exact HN6.out.1)
        obtain ⟨va, vc, hve⟩ := hO6.slice
        obtain ⟨vl, hvl⟩ : ∃ vl, (lastN s.data.toList P kj ++ [y]).length = vl := ⟨_, rfl⟩
        rw [hvl] at hve
        subst hve
        clear hvl
        refine wpAnyK_ready (rs := [13]) (by kernel_rfl) (by simp) ?_
        intro i hi
        simp only [List.mem_cons, List.not_mem_nil, or_false] at hi
        subst hi
        refine wpOp_in rfl ?_
        intro KC hKC
        go_simp
        refine hKC _ _ ⟨fun _ => hS6, ?_⟩
        try simp only [Act.put, List.setIfInBounds_toArray, List.set_cons_zero, List.set_cons_succ]
        clear hKC
        refine wpAnyK_ready (rs := [14]) (by kernel_rfl) (by simp) ?_
        intro i hi
        simp only [List.mem_cons, List.not_mem_nil, or_false] at hi
        subst hi
        refine wpOp_in rfl ?_
        intro KC hKC
        go_simp
        refine hKC _ _ ⟨fun _ => hS6, ?_⟩
        try simp only [Act.put, List.setIfInBounds_toArray, List.set_cons_zero, List.set_cons_succ]
        clear hKC
        refine wpAnyK_ready (rs := [15]) (by kernel_rfl) (by simp) ?_
        intro i hi
        simp only [List.mem_cons, List.not_mem_nil, or_false] at hi
        subst hi
        refine wpOp_in rfl ?_
        intro KC hKC
        go_simp
        refine hKC _ _ ⟨fun h => absurd rfl h, ?_⟩
        refine wpAnyK_done (by kernel_rfl) ?_ _
        clear f4 g4 hSS hSX kt hz
        go_wp2_with fail
        go_roundw
        case rel => exact ⟨j + 1, _, by go_num, by omega, HI7.out, HB7.out⟩
        case measure => simp [intOf]; omega
      · have hp0i : ((p : Int) == 0) = false := by rw [beq_eq_false_iff_ne]; omega
        have HG : Hid (IsTu B wr t s sp held (toI (P.drop k)) (lastN s.data.toList P kj) (orgN P (kj + 1)) st (.slice (some ⟨bo, off, none⟩) n cap) (.slice a4 kj cap4)) := Lib.hid (by
          have e : orgN P (kj + 1) = orgN P kj := by
            show (if P.getD kj 0 = 0 then kj else orgN P kj) = _
            rw [← HKJ.out, HPE.out, if_neg hp0]
          rw [e]
          exact HI.out)
        have HBW := HB
        clear hp0
        go_wp2_with fail
        obtain ⟨wb, rfl⟩ : ∃ wb : World, wb = wr := ⟨_, rfl⟩
        clear c0 c3 c4 c5 e3 e4 e5
        obtain ⟨c0, _, _, c3, c4, c5, _⟩ := HG.out.obj.cells
        have hSS : (fun W : World => W.cell? ⟨t, 4, none⟩ = some (.slice a4 kj cap4) ∧ W.cell? ⟨t, 0, none⟩ = some (.string s)) wb.drew := ⟨c4, c0⟩
        have hLT : t < wb.drew.heap.size := HG.out.obj.lt
        have hSX : (fun W : World => W.cell? ⟨t, 4, none⟩ = some (.slice a4 kj cap4) ∧ W.cell? ⟨t, 0, none⟩ = some (.string s)) (wb.drew.alloc (.cells #[.int .u8 (y.toNat : Int)] 5)) :=
          ⟨(World.cell?_alloc_some wb.drew _ _ (by rw [hSS.1]; rfl)).trans hSS.1, (World.cell?_alloc_some wb.drew _ _ (by rw [hSS.2]; rfl)).trans hSS.2⟩
        refine wp_region_K 15 (fun W : World => W.cell? ⟨t, 4, none⟩ = some (.slice a4 kj cap4) ∧ W.cell? ⟨t, 0, none⟩ = some (.string s)) (by kernel_rfl) ?_
        refine wpAnyK_take (i := 0) rfl (by kernel_rfl) (by kernel_rfl) (by kernel_rfl) (by kernel_rfl) (fun _ _ _ h => h) (v := ?_) (Or.inl ⟨by rfl, ?_⟩) hSS ?_
        rotate_left
        · rintro W ⟨k4, k0⟩
          go_simp
          try with_reducible rfl
        try simp only [Act.put, List.setIfInBounds_toArray, List.set_cons_zero, List.set_cons_succ]
        refine wpAnyK_take (i := 1) rfl (by kernel_rfl) (by kernel_rfl) (by kernel_rfl) (by kernel_rfl) (fun _ _ _ h => h) (v := ?_) (Or.inl ⟨by rfl, ?_⟩) hSS ?_
        rotate_left
        · rintro W ⟨k4, k0⟩
          go_simp
          try with_reducible rfl
        try simp only [Act.put, List.setIfInBounds_toArray, List.set_cons_zero, List.set_cons_succ]
        refine wpAnyK_take (i := 2) rfl (by kernel_rfl) (by kernel_rfl) (by kernel_rfl) (by kernel_rfl) (fun _ _ _ h => h) (v := ?_) (Or.inl ⟨by rfl, ?_⟩) hSS ?_
        rotate_left
        · rintro W ⟨k4, k0⟩
          go_simp
          try with_reducible rfl
        try simp only [Act.put, List.setIfInBounds_toArray, List.set_cons_zero, List.set_cons_succ]
        refine wpAnyK_take (i := 3) rfl (by kernel_rfl) (by kernel_rfl) (by kernel_rfl) (by kernel_rfl) (fun _ _ _ h => h) (v := ?_) (Or.inl ⟨by rfl, ?_⟩) hSS ?_
        rotate_left
        · rintro W ⟨k4, k0⟩
          go_simp
          try with_reducible rfl
        try simp only [Act.put, List.setIfInBounds_toArray, List.set_cons_zero, List.set_cons_succ]
        refine wpAnyK_take (i := 4) rfl (by kernel_rfl) (by kernel_rfl) (by kernel_rfl) (by kernel_rfl) (fun _ _ _ h => h) (v := ?_) (Or.inl ⟨by rfl, ?_⟩) hSS ?_
        rotate_left
        · rintro W ⟨k4, k0⟩
          go_simp
          try with_reducible rfl
        try simp only [Act.put, List.setIfInBounds_toArray, List.set_cons_zero, List.set_cons_succ]
        refine wpAnyK_take (i := 5) rfl (by kernel_rfl) (by kernel_rfl) (by kernel_rfl) (by kernel_rfl) (fun _ _ _ h => h) (v := ?_) (Or.inl ⟨by rfl, ?_⟩) hSS ?_
        rotate_left
        · rintro W ⟨k4, k0⟩
          go_simp
          try with_reducible rfl
        try simp only [Act.put, List.setIfInBounds_toArray, List.set_cons_zero, List.set_cons_succ]
        refine wpAnyK_take (i := 6) rfl (by kernel_rfl) (by kernel_rfl) (by kernel_rfl) (by kernel_rfl) (fun _ _ _ h => h) (v := ?_) (Or.inl ⟨by rfl, ?_⟩) hSS ?_
        rotate_left
        · rintro W ⟨k4, k0⟩
          go_simp
          try with_reducible rfl
        try simp only [Act.put, List.setIfInBounds_toArray, List.set_cons_zero, List.set_cons_succ]
        refine wpAnyK_take (i := 7) rfl (by kernel_rfl) (by kernel_rfl) (by kernel_rfl) (by kernel_rfl) (fun _ _ _ h => h) (v := ?_) (Or.inl ⟨by rfl, ?_⟩) hSS ?_
        rotate_left
        · rintro W ⟨k4, k0⟩
          go_simp
          try with_reducible rfl
        try simp only [Act.put, List.setIfInBounds_toArray, List.set_cons_zero, List.set_cons_succ]
        refine wpAnyK_take (i := 8) rfl (by kernel_rfl) (by kernel_rfl) (by kernel_rfl) (by kernel_rfl) (fun _ _ _ h => h) (v := ?_) (Or.inl ⟨by rfl, ?_⟩) hSS ?_
        rotate_left
        · rintro W ⟨k4, k0⟩
          go_simp
          try with_reducible rfl
        try simp only [Act.put, List.setIfInBounds_toArray, List.set_cons_zero, List.set_cons_succ]
        refine wpAnyK_take (i := 9) rfl (by kernel_rfl) (by kernel_rfl) (by kernel_rfl) (by kernel_rfl) (fun _ _ _ h => h) (v := ?_) (Or.inl ⟨by rfl, ?_⟩) hSS ?_
        rotate_left
        · rintro W ⟨k4, k0⟩
          go_simp
          try with_reducible rfl
        try simp only [Act.put, List.setIfInBounds_toArray, List.set_cons_zero, List.set_cons_succ]
        refine wpAnyK_ready (rs := [10]) (by kernel_rfl) (by simp) ?_
        intro i hi
        simp only [List.mem_cons, List.not_mem_nil, or_false] at hi
        subst hi
        refine wpOp_in rfl ?_
        intro KC hKC
        go_simp
        go_at_call 64
        refine (HAH.out _).mono ?_
        rintro e wA ⟨rfl, rfl⟩
        refine hKC _ _ ⟨fun _ => hSS, ?_⟩
        try simp only [Act.put, List.setIfInBounds_toArray, List.set_cons_zero, List.set_cons_succ]
        clear hKC
        refine wpAnyK_ready (rs := [11]) (by kernel_rfl) (by simp) ?_
        intro i hi
        simp only [List.mem_cons, List.not_mem_nil, or_false] at hi
        subst hi
        refine wpOp_in rfl ?_
        intro KC hKC
        go_simp
        refine hKC _ _ ⟨fun _ => hSX, ?_⟩
        try simp only [Act.put, List.setIfInBounds_toArray, List.set_cons_zero, List.set_cons_succ]
        clear hKC
        refine wpAnyK_ready (rs := [12]) (by kernel_rfl) (by simp) ?_
        intro i hi
        simp only [List.mem_cons, List.not_mem_nil, or_false] at hi
        subst hi
        refine wpOp_in rfl ?_
        intro KC hKC
        have HOWN : Hid (OwnY (wb.drew.alloc (.cells #[.int .u8 (y.toNat : Int)] 5)) B (.slice a4 kj cap4) (lastN s.data.toList P kj)) := Lib.hid (World.ownsRow.alloc (show wb.drew.ownsRow B 5 1 (.slice a4 kj cap4) _ _ from HG.out.last) _)
        have HBX : Hid ((wb.drew.alloc (.cells #[.int .u8 (y.toNat : Int)] 5)).cell? ⟨wb.heap.size, 0, none⟩ = some (u8v y)) := Lib.hid (by
          have := cell_of_row _ _ 0 _ _ _ (heap_alloc_new wb.drew (.cells #[.int .u8 (y.toNat : Int)] 5))
          exact this)
        have HBZ : Hid (B ≤ (wb.drew.alloc (.cells #[.int .u8 (y.toNat : Int)] 5)).heap.size) := Lib.hid (by
          have h1 := HBW.out.size
          have h2 : wb.drew.heap.size = wb.heap.size := rfl
          simp
          omega)
        refine step_push_byte (wb.drew.alloc (.cells #[.int .u8 (y.toNat : Int)] 5)) (by rfl) _ _ (by rfl) B wb.heap.size (.slice a4 kj cap4) (lastN s.data.toList P kj) y HOWN.out (by rfl) (by rfl) HBX.out (by rw [HLL.out]; omega) HBZ.out ?_
        intro v' w6 hO6 hB6 hk6 hf6
        have hz : (wb.drew.alloc (.cells #[.int .u8 (y.toNat : Int)] 5)).heap.size = wb.heap.size + 1 := by show (wb.heap.push _).size = _; simp
        have kt : w6.heap[t]? = wb.heap[t]? := (hk6 t (by rw [hz]; exact Nat.lt_succ_of_lt hLT) (fun e => (HG.out.lap t e).1 rfl)).trans (alloc_old (w := wb.drew) hLT)
        have hS6 : (fun W : World => W.cell? ⟨t, 4, none⟩ = some (.slice a4 kj cap4) ∧ W.cell? ⟨t, 0, none⟩ = some (.string s)) w6 := ⟨(World.cell?_of_block (w := wb) (a := ⟨t, 4, none⟩) kt).trans c4, (World.cell?_of_block (w := wb) (a := ⟨t, 0, none⟩) kt).trans c0⟩
        have f4 : w6.cell? ⟨t, 4, none⟩ = some (.slice a4 kj cap4) := hS6.1
        have g4 : w6.frozen? ⟨t, 4, none⟩ = false := (World.frozen?_of_block (w := wb) (a := ⟨t, 4, none⟩) kt).trans (HG.out.obj.frozen 4 (by omega))
        refine hKC _ _ ⟨fun _ => hS6, ?_⟩
        try simp only [Act.put, List.setIfInBounds_toArray, List.set_cons_zero, List.set_cons_succ]
        clear hKC
        have HPU : Hid (Pushed wb w6 (.slice a4 kj cap4) v') := Lib.hid ⟨hB6.os, hB6.tape, hB6.output, by have := hB6.size; omega, fun k hk hn => (hk6 k (by omega) hn).trans (alloc_old (w := wb.drew) hk), fun k hk => (hf6 k hk).imp id (fun h => by omega)⟩
        have HO6 : Hid (OwnY w6 B v' (lastN s.data.toList P (kj + 1))) := Lib.hid (by
          rw [lastN_next (by rw [← HKJ.out, HNK.out]; omega), ← HKJ.out, HPE.out, HY.out, HKJ.out]
          exact hO6)
        have HN6 := Lib.hid (HG.out.grown HPU.out HO6.out)
        have HB7 : Hid (Below B w (w6.setCell ⟨t, 4, none⟩ v')) := Lib.hid (HBW.out.trans (HN6.out.2.below (Nat.le_trans hb HBW.out.size) (fun x hx => by
          rcases hx with e | e
          · have := HG.out.base; omega
          · exact (HG.out.last.lt x e).1)))
        have HI7 : Hid (IsTu B (w6.setCell ⟨t, 4, none⟩ v') t s sp held (toI (P.drop k)) (lastN s.data.toList P (k + (j + 1))) (orgN P (k + (j + 1))) st (.slice (some ⟨bo, off, none⟩) n cap) v') := Lib.hid (by
          rw [show k + (j + 1) = kj + 1 by have := HKJ.out; omega]
          exact HN6.out.1)
        obtain ⟨va, vc, hve⟩ := hO6.slice
        obtain ⟨vl, hvl⟩ : ∃ vl, (lastN s.data.toList P kj ++ [y]).length = vl := ⟨_, rfl⟩
        rw [hvl] at hve
        subst hve
        clear hvl
        refine wpAnyK_ready (rs := [13]) (by kernel_rfl) (by simp) ?_
        intro i hi
        simp only [List.mem_cons, List.not_mem_nil, or_false] at hi
        subst hi
        refine wpOp_in rfl ?_
        intro KC hKC
        go_simp
        refine hKC _ _ ⟨fun _ => hS6, ?_⟩
        try simp only [Act.put, List.setIfInBounds_toArray, List.set_cons_zero, List.set_cons_succ]
        clear hKC
        refine wpAnyK_ready (rs := [14]) (by kernel_rfl) (by simp) ?_
        intro i hi
        simp only [List.mem_cons, List.not_mem_nil, or_false] at hi
        subst hi
        refine wpOp_in rfl ?_
        intro KC hKC
        go_simp
        refine hKC _ _ ⟨fun _ => hS6, ?_⟩
        try simp only [Act.put, List.setIfInBounds_toArray, List.set_cons_zero, List.set_cons_succ]
        clear hKC
        refine wpAnyK_ready (rs := [15]) (by kernel_rfl) (by simp) ?_
        intro i hi
        simp only [List.mem_cons, List.not_mem_nil, or_false] at hi
        subst hi
        refine wpOp_in rfl ?_
        intro KC hKC
        go_simp
        refine hKC _ _ ⟨fun h => absurd rfl h, ?_⟩
        refine wpAnyK_done (by kernel_rfl) ?_ _
        clear f4 g4 hSS hSX kt hz
        go_wp2_with fail
        go_roundw
        case rel => exact ⟨j + 1, _, by go_num, by omega, HI7.out, HB7.out⟩
        case measure => simp [intOf]; omega
    · have hji : ¬ (j : Int) < (g : Int) := by omega
      have hje : j = g := by omega
      subst hje
      have hsl3 := fun W => osl_l bo off n cap j hgn hc1 hc2 W
      obtain ⟨off2, ho2⟩ : ∃ off2, (if cap = j then off else off + j) = off2 := ⟨_, rfl⟩
      have hoff2 : j < n → off2 = off + j := fun h => by rw [← ho2, if_neg (by omega)]
      rw [ho2] at hsl3
      clear ho2
      have HR : Hid (TakeP B w (wr.setCell ⟨t, 3, none⟩ (.slice (some ⟨bo, off2, none⟩) (n - j) (cap - j))) t s sp held st P k j (.returned (.int .i64 (j : Int)))) := Lib.hid (by
        refine ⟨rfl, bo, off2, n - j, cap - j, v1, HI.out.setRow (zs' := toI (P.drop (k + j))) ?_ (fun e => HI.out.oap (by simpa [Value.ownBlock] using e)) (fun x hx e => (HI.out.lap x hx).2 (by simpa [Value.ownBlock] using e)) (fun x hx => HI.out.olt x (by simpa [Value.ownBlock] using hx)) (Or.inr ⟨bo, off2, n - j, cap - j, rfl, by omega, by omega⟩), ⟨by rw [HNK.out]; omega, by omega, by omega⟩, HB.out.setCell (p := ⟨t, 3, none⟩) HI.out.base _⟩
        have hl : (toI (P.drop (k + j))).length = n - j := by rw [toI_length, List.length_drop, HNK.out]; omega
        refine ⟨_, cap - j, by rw [hl], fun i x hx => ⟨bo, off2, rfl, ?_⟩⟩
        have hi : i < n - j := by rw [← hl]; exact (List.getElem?_eq_some_iff.1 hx).1
        rw [hoff2 (by omega), Nat.add_assoc, HCELL.out wr (j + i) (by omega) HI.out.row]
        have e : (toI (P.drop (k + j))).getD i 0 = x := by rw [List.getD_eq_getElem?_getD, hx]; rfl
        rw [← e, toI_getD, getD_drop, Nat.add_assoc])
      clear hoff2
      go_wp2_with fail
      go_ret
      exact HR.out
end
end Go.Proofs.Ytfedhppcmmponaa
namespace Go.Proofs.Ytfedhppcmmponaa
open Go.RowKit BwtM SrtM PkM
set_option linter.unusedVariables false
set_option linter.unusedSimpArgs false
/-- Where a turner stands: g of R + n steps were gone. -/
def TuSt (B : Nat) (w : World) (t n : Nat) (s : ByteArray) (R : Nat) (P : List Nat) (g : Nat) : Prop :=
  ((g < R ∨ (g = 0 ∧ R = 0)) ∧ ∃ b, SoSt B w b n s.data.toList [t] g (R - g) ∧ IsTu B w t s (.pointer (some ⟨b, 0, none⟩)) (3 * n) [] [] 0 g (.slice none 0 0) (.slice none 0 0)) ∨
  (R ≤ g ∧ g ≤ R + n ∧ ∃ bo off nn cap vw, IsTu B w t s (.pointer none) (3 * n) (toI (P.drop (g - R))) (lastN s.data.toList P (g - R)) (orgN P (g - R)) g (.slice (some ⟨bo, off, none⟩) nn cap) vw ∧ P.length - (g - R) = nn ∧ nn ≤ cap ∧ cap ≤ 9223372036854775807)
theorem TuSt.below {B : Nat} {w w' : World} {t n : Nat} {s : ByteArray} {R : Nat} {P : List Nat} {g : Nat} (h : TuSt B w t n s R P g) (hb : Below w.heap.size w w') : TuSt B w' t n s R P g := by
  rcases h with ⟨h1, b, h2, h3⟩ | ⟨h1, h2, bo, off, nn, cap, vw, h3, h4⟩
  · exact Or.inl ⟨h1, b, h2.below hb, h3.below hb⟩
  · exact Or.inr ⟨h1, h2, bo, off, nn, cap, vw, h3.below hb, h4⟩
/-- The sorted places of a text. -/
structure Srtd (s : ByteArray) (n R : Nat) (P : List Nat) : Prop where
  size : s.size = n
  pos : 0 < n
  le : n ≤ 1024
  ord : IsSorted s.data.toList P
  steps : StepsOf s.data.toList R
theorem Srtd.len {s : ByteArray} {n R : Nat} {P : List Nat} (h : Srtd s n R P) : P.length = n ∧ s.data.toList.length = n ∧ (∀ p ∈ P, p < n) ∧ R ≤ 500000 := by
  have hl : s.data.toList.length = n := (txt_len s).trans h.size
  refine ⟨by rw [h.ord.1.length_eq, List.length_range, hl], hl, fun p hp => ?_, (h.steps.most (by rw [hl]; exact h.le)).2⟩
  have := List.mem_range.1 (h.ord.1.mem_iff.1 hp)
  omega
def BStepP (B : Nat) (w w' : World) (t n : Nat) (s : ByteArray) (R : Nat) (P : List Nat) (g a : Nat) (e : Ending) : Prop :=
  e = .returned (.int .i64 (a : Int)) ∧ TuSt B w' t n s R P (g + a) ∧ Below B w w'
/-- A row of numbers of the call's own, as one of places. -/
theorem ord_val {w : World} {B : Nat} {v : Value} {zs : List Int} (h : OwnI w B v zs) (hz : 0 < zs.length) : ∃ bo cap, v = .slice (some ⟨bo, 0, none⟩) zs.length cap ∧ zs.length ≤ cap ∧ cap ≤ 9223372036854775807 := by
  have hl := h.1
  rcases h.2 with ⟨rfl, h0⟩ | ⟨g, cap, cur, rfl, hB, hg, hnc, hcm, hcs, ht⟩
  · rw [h0] at hz; omega
  · exact ⟨g, cap, rfl, hnc, by unfold maxLen at hcm; omega⟩
section
variable {B t n R g : Nat} {s : ByteArray} {P : List Nat}
set_option maxRecDepth 100000 in
set_option maxHeartbeats 4000000 in
theorem bstep_less (w : World) (k : Int) (h : t < w.heap.size) (hk : k < 1) : Calls Try.prog 36 #[.pointer (some ⟨t, 0, none⟩), .int .i64 k] w fun e w' => e = .returned (.int .i64 0) ∧ w' = w := by
  go_enter Try.func36, Try.ntmps36
  go_wp2_with fail
  go_ret
  exact ⟨rfl, rfl⟩
set_option maxRecDepth 100000 in
set_option maxHeartbeats 8000000 in
/-- Steps behind the sorting. -/
theorem bstep_late (w : World) (k : Nat) (bo off nn cap : Nat) (vw : Value) (hs : Srtd s n R P) (hg : R ≤ g) (hg2 : g ≤ R + n) (h : IsTu B w t s (.pointer none) (3 * n) (toI (P.drop (g - R))) (lastN s.data.toList P (g - R)) (orgN P (g - R)) g (.slice (some ⟨bo, off, none⟩) nn cap) vw) (hn : P.length - (g - R) = nn) (hc1 : nn ≤ cap) (hc2 : cap ≤ 9223372036854775807) (hk1 : 1 ≤ k) (hk : k ≤ 9223372036854775807) (hb : B ≤ w.heap.size) :
    Calls Try.prog 36 #[.pointer (some ⟨t, 0, none⟩), .int .i64 (k : Int)] w fun e w' => BStepP B w w' t n s R P g (min k (R + n - g)) e := by
  obtain ⟨hl1, hl2, hl3, hl4⟩ := hs.len
  have hn1 := hs.le
  have hsz := hs.size
  have hmin : min k nn = min k (R + n - g) := by rw [← hn, hl1, show n - (g - R) = R + n - g by omega]
  have HT := Lib.hid (btake_any w P (g - R) k bo off cap nn vw h (by rw [hsz]; exact hl3) (by omega) hn hc1 hc2 (by omega) (by omega) hk hb)
  rw [hmin] at HT
  obtain ⟨a, ha⟩ : ∃ a, min k (R + n - g) = a := ⟨_, rfl⟩
  rw [ha] at HT ⊢
  have hab : a ≤ R + n - g := by omega
  obtain ⟨c0, c1, _, _, _, _, c6⟩ := h.obj.cells
  have HG := Lib.hid (And.intro hg hg2)
  have hkg : g ≤ 600000 := by omega
  have HL1 := Lib.hid hl1
  have hkk : (1 : Int) ≤ (k : Int) := by omega
  have HBT := Lib.hid h.base
  clear h hmin ha hl2 hl3 hn hs
  go_enter Try.func36, Try.ntmps36
  go_wp2_with fail
  refine (sstep_nil _ _).mono ?_
  rintro e w1 ⟨rfl, rfl⟩
  go_wp2_with fail
  refine (sdone_nil _).mono ?_
  rintro e w2 ⟨rfl, rfl⟩
  go_wp2_with fail
  refine HT.out.mono ?_
  rintro e w3 ⟨rfl, b2, o2, n2, c2, vw3, h3, hk3, hB3⟩
  have HK3 := Lib.hid hk3
  have H3 := Lib.hid h3
  have HB3 := Lib.hid hB3
  obtain ⟨_, _, _, _, _, _, d6⟩ := h3.obj.cells
  have e6 := h3.obj.frozen 6 (by omega)
  clear h3 hB3 hk3
  obtain ⟨ga, hga⟩ : ∃ ga, g + a = ga := ⟨_, rfl⟩
  have hgai : (g : Int) + (a : Int) = (ga : Int) := by omega
  have hgaw : IntKind.i64.wrap (ga : Int) = (ga : Int) := IntWalk.i64_in _ (by omega)
  have HR : Hid (BStepP B w2 (w3.setCell ⟨t, 6, none⟩ (.int .i64 (ga : Int))) t n s R P g a (.returned (.int .i64 (a : Int)))) := Lib.hid (by
    have h4 := H3.out.own (touch_cell (i := 6) (Touch.refl _ _)) (H3.out.obj.set6 ga)
    have hGG := HG.out
    have e1 : g - R + a = ga - R := by omega
    rw [e1] at h4
    refine ⟨rfl, ?_, HB3.out.setCell (p := ⟨t, 6, none⟩) HBT.out _⟩
    rw [hga]
    refine Or.inr ⟨by omega, by omega, ?_⟩
    have hk3 := HK3.out
    rw [e1] at hk3
    exact ⟨b2, o2, n2, c2, vw3, h4, hk3⟩)
  clear hga
  go_wp2_with fail
  go_ret
  exact HR.out
set_option maxRecDepth 100000 in
set_option maxHeartbeats 8000000 in
/-- Steps while it sorts. -/
theorem bstep_early (w : World) (k b : Nat) (hs : Srtd s n R P) (hg : g < R ∨ (g = 0 ∧ R = 0)) (hS : SoSt B w b n s.data.toList [t] g (R - g)) (h : IsTu B w t s (.pointer (some ⟨b, 0, none⟩)) (3 * n) [] [] 0 g (.slice none 0 0) (.slice none 0 0)) (hk1 : 1 ≤ k) (hk : k ≤ 9223372036854775807) (hb : B ≤ w.heap.size) :
    Calls Try.prog 36 #[.pointer (some ⟨t, 0, none⟩), .int .i64 (k : Int)] w fun e w' => BStepP B w w' t n s R P g (min k (R + n - g)) e := by
  obtain ⟨hl1, hl2, hl3, hl4⟩ := hs.len
  have hn1 := hs.le
  have hsz := hs.size
  have hpos := hs.pos
  have HST := Lib.hid (sstep_any s.data.toList w g (R - g) k hS hl2 (Or.inl hpos) (by omega) (by omega) (by omega) hk hb)
  obtain ⟨a, ha⟩ : ∃ a, min k (R - g) = a := ⟨_, rfl⟩
  rw [ha] at HST
  obtain ⟨c0, c1, _, _, _, _, c6⟩ := h.obj.cells
  have H := Lib.hid h
  have HBT := Lib.hid h.base
  have HL1 := Lib.hid hl1
  have HL2 := Lib.hid hl2
  have HORD := Lib.hid hs.ord
  have HP := Lib.hid hl3
  have HSZ := Lib.hid hsz
  have hkg : g ≤ 600000 := by omega
  have hkk : (1 : Int) ≤ (k : Int) := by omega
  have HAE := Lib.hid ha
  have HGR := Lib.hid hg
  obtain ⟨k2, hk2⟩ : ∃ k2, k - a = k2 := ⟨_, rfl⟩
  have hak : a ≤ k := by omega
  have hk2i : (k : Int) - (a : Int) = (k2 : Int) := by omega
  have hk2w : IntKind.i64.wrap (k2 : Int) = (k2 : Int) := IntWalk.i64_in _ (by omega)
  have HK2 := Lib.hid hk2
  have hab : a ≤ R - g := by omega
  clear h hS ha hl1 hl2 hl3 hs hsz hk2 hg
  go_enter Try.func36, Try.ntmps36
  go_wp2_with fail
  refine HST.out.mono ?_
  rintro e w1 ⟨rfl, hS1, hB1, hZ1⟩
  have HS1 := Lib.hid hS1
  have HB1 := Lib.hid hB1
  have H1 : Hid (IsTu B w1 t s (.pointer (some ⟨b, 0, none⟩)) (3 * n) [] [] 0 g (.slice none 0 0) (.slice none 0 0)) := Lib.hid (by
    obtain ⟨F, o1, o2⟩ := H.out.obj
    exact ⟨⟨F, (hZ1 t (by simp)).trans o1, o2⟩, IsInts.nil _, OwnY.nil _ _, fun e => (by cases e), fun j hj => (by cases hj), H.out.base, fun j hj => (by cases hj), Or.inl rfl⟩)
  have HD := Lib.hid (hS1.done HL2.out)
  obtain ⟨d0, d1, _, d3, _, _, d6⟩ := H1.out.obj.cells
  have e1 := H1.out.obj.frozen 1 (by omega)
  have e3 := H1.out.obj.frozen 3 (by omega)
  have HZ := Lib.hid hS1.zlt
  clear hS1 hB1 hZ1
  by_cases hfin : R - g - a = 0
  · rw [show (R - g - a == 0) = true by rw [beq_iff_eq]; exact hfin] at HD
    have HS1f : Hid (SoSt B w1 b n s.data.toList [t] (g + a) 0) := Lib.hid (by have := HS1.out; rw [hfin] at this; exact this)
    have HOR := Lib.hid (sorder_yes w1 HS1f.out HL2.out (by omega))
    go_wp2_with fail
    refine HD.out.mono ?_
    rintro e w2 ⟨rfl, rfl⟩
    go_wp2_with fail
    refine HOR.out.mono ?_
    rintro e w3 ⟨⟨v, P2, rfl, hO, hso⟩, hB3⟩
    obtain rfl : P2 = P := hso.same HORD.out
    have HO := Lib.hid hO
    have hzl : (toI P2).length = n := by rw [toI_length]; exact HL1.out
    obtain ⟨bo, cap, hve, hc1, hc2⟩ := ord_val hO (by rw [hzl]; exact hpos)
    rw [hzl] at hve hc1
    subst hve
    have H3 := Lib.hid (H1.out.below hB3)
    have HB3 := Lib.hid (HB1.out.trans (hB3.mono (Nat.le_trans hb HB1.out.size)))
    obtain ⟨d0, d1, _, d3, _, _, d6⟩ := H3.out.obj.cells
    have e1 := H3.out.obj.frozen 1 (by omega)
    have e3 := H3.out.obj.frozen 3 (by omega)
    have e6 := H3.out.obj.frozen 6 (by omega)
    have HBO : Hid (w2.heap.size ≤ bo ∧ bo < w3.heap.size) := Lib.hid (hO.lt bo rfl)
    have HT5 : Hid (IsTu B ((w3.setCell ⟨t, 3, none⟩ (.slice (some ⟨bo, 0, none⟩) n cap)).setCell ⟨t, 1, none⟩ (.pointer none)) t s (.pointer none) (3 * n) (toI (P2.drop 0)) (lastN s.data.toList P2 0) (orgN P2 0) g (.slice (some ⟨bo, 0, none⟩) n cap) (.slice none 0 0)) := Lib.hid (by
      have hlt := H1.out.obj.lt
      have hbo := HBO.out
      have h4 := H3.out.setRow (ov' := .slice (some ⟨bo, 0, none⟩) n cap) (zs' := toI P2) HO.out.ints (fun e => by simp [Value.ownBlock] at e; omega) (fun j hj => by cases hj) (fun j hj => by simp [Value.ownBlock] at hj; omega) (Or.inr ⟨bo, 0, n, cap, rfl, hc1, hc2⟩)
      have h5 := h4.own (touch_cell (i := 1) (Touch.refl _ _)) (h4.obj.set1 (.pointer none))
      exact h5)
    have HB5 : Hid (Below B w ((w3.setCell ⟨t, 3, none⟩ (.slice (some ⟨bo, 0, none⟩) n cap)).setCell ⟨t, 1, none⟩ (.pointer none))) := Lib.hid ((HB3.out.setCell (p := ⟨t, 3, none⟩) HBT.out _).setCell (p := ⟨t, 1, none⟩) HBT.out _)
    clear hO hso hB3 hzl
    go_wp2_with fail
    generalize (w3.setCell ⟨t, 3, none⟩ (.slice (some ⟨bo, 0, none⟩) n cap)).setCell ⟨t, 1, none⟩ (.pointer none) = w5 at *
    have HTK := Lib.hid (btake_any w5 P2 0 k2 bo 0 cap n (.slice none 0 0) HT5.out (by rw [HSZ.out]; exact HP.out) (Nat.zero_le _) (by rw [HL1.out]; omega) hc1 hc2 (by rw [HL1.out]; omega) (by rw [HSZ.out]; omega) (by omega) (Nat.le_trans hb HB5.out.size))
    obtain ⟨g2, hg2⟩ : ∃ g2, min k2 n = g2 := ⟨_, rfl⟩
    rw [hg2] at HTK
    refine HTK.out.mono ?_
    rintro e w6 ⟨rfl, b6, o6, n6, c6, v6, h6, hk6, hB6⟩
    have H6 := Lib.hid h6
    have HK6 := Lib.hid hk6
    have HB6 := Lib.hid (HB5.out.trans hB6)
    obtain ⟨_, _, _, _, _, _, d6⟩ := h6.obj.cells
    have e6 := h6.obj.frozen 6 (by omega)
    obtain ⟨tt, htt⟩ : ∃ tt, a + g2 = tt := ⟨_, rfl⟩
    have httm : min k (R + n - g) = tt := by
      have h1 := HAE.out
      have h2 := HK2.out
      have h3 := HGR.out
      omega
    have HTT : Hid (min k (R + n - g) = tt ∧ g + tt - R = g2 ∧ R ≤ g + tt ∧ g + tt ≤ R + n) := Lib.hid (by
      have h3 := HGR.out
      omega)
    have htti : (a : Int) + (g2 : Int) = (tt : Int) := by omega
    have httw : IntKind.i64.wrap (tt : Int) = (tt : Int) := IntWalk.i64_in _ (by omega)
    obtain ⟨gt, hgt⟩ : ∃ gt, g + tt = gt := ⟨_, rfl⟩
    have hgti : (g : Int) + (tt : Int) = (gt : Int) := by omega
    have hgtw : IntKind.i64.wrap (gt : Int) = (gt : Int) := IntWalk.i64_in _ (by omega)
    have HR : Hid (BStepP B w (w6.setCell ⟨t, 6, none⟩ (.int .i64 (gt : Int))) t n s R P2 g (min k (R + n - g)) (.returned (.int .i64 (tt : Int)))) := Lib.hid (by
      rw [HTT.out.1]
      have h7 := H6.out.own (touch_cell (i := 6) (Touch.refl _ _)) (H6.out.obj.set6 gt)
      rw [Nat.zero_add] at h7
      have hk6 := HK6.out
      rw [Nat.zero_add] at hk6
      refine ⟨rfl, ?_, HB6.out.setCell (p := ⟨t, 6, none⟩) HBT.out _⟩
      have hx := HTT.out.2
      rw [hgt] at hx ⊢
      refine Or.inr ⟨hx.2.1, hx.2.2, b6, o6, n6, c6, v6, ?_, ?_⟩
      · rw [hx.1]; exact h7
      · rw [hx.1]; exact hk6)
    clear h6 hk6 hB6 hg2 htt httm hgt
    go_wp2_with fail
    go_ret
    exact HR.out
  · rw [show (R - g - a == 0) = false by rw [beq_eq_false_iff_ne]; exact hfin] at HD
    have HAK : Hid (a = k ∧ k2 = 0) := Lib.hid (by
      have h1 := HAE.out
      have h2 := HK2.out
      omega)
    have HTK := Lib.hid (btake_none w1 k2 (.slice none 0 0) [] 0 H1.out (by omega) (Nat.le_trans hb HB1.out.size))
    go_wp2_with fail
    refine HD.out.mono ?_
    rintro e w2 ⟨rfl, rfl⟩
    go_wp2_with fail
    refine HTK.out.mono ?_
    rintro e w3 ⟨rfl, h3, hT3⟩
    have H3 := Lib.hid h3
    have HT3 := Lib.hid hT3
    obtain ⟨_, _, _, _, _, _, d6⟩ := h3.obj.cells
    have e6 := h3.obj.frozen 6 (by omega)
    obtain ⟨ga, hga⟩ : ∃ ga, g + a = ga := ⟨_, rfl⟩
    have hgai : (g : Int) + (a : Int) = (ga : Int) := by omega
    have hgaw : IntKind.i64.wrap (ga : Int) = (ga : Int) := IntWalk.i64_in _ (by omega)
    have HMN : Hid (min k (R + n - g) = a) := Lib.hid (by have := HAK.out; omega)
    have HLTR : Hid (ga < R) := Lib.hid (by omega)
    have HR : Hid (BStepP B w (w3.setCell ⟨t, 6, none⟩ (.int .i64 (ga : Int))) t n s R P g (min k (R + n - g)) (.returned (.int .i64 (a : Int)))) := Lib.hid (by
      rw [HMN.out]
      have h7 := H3.out.own (touch_cell (i := 6) (Touch.refl _ _)) (H3.out.obj.set6 ga)
      have t7 : Touch (· = t) w3 (w3.setCell ⟨t, 6, none⟩ (.int .i64 (ga : Int))) := touch_cell (Touch.refl _ _)
      have hs7 := (HS1.out.touched HT3.out (fun k _ hk => by rw [hk]; simp)).touched t7 (fun k _ hk => by rw [hk]; simp)
      have hb3 : Below B w w3 := HB1.out.trans (HT3.out.below (Nat.le_trans hb HB1.out.size) (fun k hk => by rw [hk]; exact HBT.out))
      refine ⟨rfl, ?_, hb3.setCell (p := ⟨t, 6, none⟩) HBT.out _⟩
      rw [show R - g - a = R - ga by omega] at hs7
      rw [hga] at hs7 ⊢
      exact Or.inl ⟨Or.inl HLTR.out, b, hs7, h7⟩)
    clear h3 hT3 hga
    go_wp2_with fail
    go_ret
    exact HR.out
/-- So many steps as any budget asks. -/
theorem bstep_any (w : World) (k : Int) (hs : Srtd s n R P) (h : TuSt B w t n s R P g) (ht : t < w.heap.size) (hk : k ≤ 9223372036854775807) (hb : B ≤ w.heap.size) :
    Calls Try.prog 36 #[.pointer (some ⟨t, 0, none⟩), .int .i64 k] w fun e w' => BStepP B w w' t n s R P g (min k.toNat (R + n - g)) e := by
  by_cases hk1 : k < 1
  · refine (bstep_less w k ht hk1).mono ?_
    rintro e w' ⟨rfl, rfl⟩
    rw [show min k.toNat (R + n - g) = 0 by omega]
    exact ⟨rfl, h, Below.refl _ _⟩
  · obtain ⟨K, rfl⟩ : ∃ K : Nat, k = (K : Int) := ⟨k.toNat, by omega⟩
    rw [Int.toNat_natCast]
    rcases h with ⟨h1, b, h2, h3⟩ | ⟨h1, h2, bo, off, nn, cap, vw, h3, h4, h5, h6⟩
    · exact bstep_early w K b hs h1 h2 h3 (by omega) (by omega) hb
    · exact bstep_late w K bo off nn cap vw hs h1 h2 h3 h4 h5 h6 (by omega) (by omega) hb
theorem TuSt.lt {w : World} (h : TuSt B w t n s R P g) : t < w.heap.size := by
  rcases h with ⟨_, b, _, h3⟩ | ⟨_, _, bo, off, nn, cap, vw, h3, _⟩
  · exact h3.obj.lt
  · exact h3.obj.lt
/-- What is told of a turner. -/
theorem TuSt.tells {w : World} (h : TuSt B w t n s R P g) (hs : Srtd s n R P) :
    Calls Try.prog 37 #[.pointer (some ⟨t, 0, none⟩)] w (fun e w' => e = .returned (.int .i64 (g : Int)) ∧ w' = w) ∧
    Calls Try.prog 39 #[.pointer (some ⟨t, 0, none⟩)] w (fun e w' => e = .returned (.int .i64 ((3 * n + (g - R) : Nat) : Int)) ∧ ∃ m, w' = w.drewN m) ∧
    Calls Try.prog 38 #[.pointer (some ⟨t, 0, none⟩)] w (fun e w' => e = .returned (.bool (g == R + n)) ∧ ∃ m, w' = w.drewN m) ∧
    (g < R + n → Calls Try.prog 40 #[.pointer (some ⟨t, 0, none⟩)] w (fun e w' => e = .returned (.tuple #[.string ⟨#[]⟩, .int .i64 0]) ∧ ∃ m, w' = w.drewN m)) ∧
    (g = R + n → Calls Try.prog 40 #[.pointer (some ⟨t, 0, none⟩)] w (fun e w' => e = .returned (.tuple #[.string ⟨(lastN s.data.toList P n).toArray⟩, .int .i64 (orgN P n : Int)]) ∧ ∃ m, w' = w.drewN m)) := by
  obtain ⟨hl1, hl2, hl3, hl4⟩ := hs.len
  have h1 := hs.le
  have h2 := hs.pos
  have h3 := hs.size
  rcases h with ⟨hg, b, hS, hI⟩ | ⟨hg, hg2, bo, off, nn, cap, vw, hI, h4, h5, h6⟩
  · have e0 : g - R = 0 := by omega
    have e1 : (g == R + n) = (([] : List UInt8).length == s.size) := by
      rw [Bool.eq_iff_iff, beq_iff_eq, beq_iff_eq]
      show g = R + n ↔ 0 = s.size
      omega
    rw [e0, e1]
    exact ⟨bsteps_any hI, bheld_any hI (by omega) (by simp), bdone_any hI (by omega) (by omega) (by simp), fun _ => bresult_no hI (by omega) (by omega) (by show 0 < s.size; omega), fun h => by omega⟩
  · have hl : (lastN s.data.toList P (g - R)).length = g - R := lastN_len (by omega)
    have e1 : (g == R + n) = ((lastN s.data.toList P (g - R)).length == s.size) := by
      rw [hl, Bool.eq_iff_iff, beq_iff_eq, beq_iff_eq]
      omega
    have hh := bheld_any hI (by omega) (by omega)
    rw [hl] at hh
    rw [e1]
    refine ⟨bsteps_any hI, hh, bdone_any hI (by omega) (by omega) (by omega), fun _ => bresult_no hI (by omega) (by omega) (by omega), fun h => ?_⟩
    have e2 : g - R = n := by omega
    rw [e2] at hI hl
    exact bresult_yes hI (by omega) (by omega) (by omega)
end
end Go.Proofs.Ytfedhppcmmponaa
namespace Go.Proofs.Ytfedhppcmmponaa
open Go.RowKit BwtM SrtM PkM
set_option linter.unusedVariables false
set_option linter.unusedSimpArgs false
def tuCells (s : ByteArray) (sp : Value) (held : Nat) (ov : Value) : List Value := [.string s, sp, .int .i64 (held : Int), ov, .slice none 0 0, .int .i64 0, .int .i64 0]
theorem tu_box (w : World) (s : ByteArray) (sp : Value) (held : Nat) (ov : Value) : TuObj (w.alloc (.cells #[.string s, sp, .int .i64 (held : Int), ov, .slice none 0 0, .int .i64 0, .int .i64 0] 70)) w.heap.size s sp held ov (.slice none 0 0) 0 0 := by
  refine ⟨fun k => (tuCells s sp held ov).getD k undef, ?_, ⟨rfl, rfl, rfl, rfl, rfl, rfl, rfl⟩⟩
  unfold ObjF
  rw [heap_alloc_new]
  rfl
set_option maxRecDepth 100000 in
set_option maxHeartbeats 4000000 in
theorem bnew_any (s : ByteArray) (n : Nat) (w : World) (hn : s.size = n) (h0 : 0 < n) (hs : n ≤ 1024) : Calls Try.prog 34 #[.string s] w fun e w' => ∃ t R P, e = .returned (.tuple #[.pointer (some ⟨t, 0, none⟩), .int .i64 0]) ∧ Srtd s n R P ∧ TuSt w.heap.size w' t n s R P 0 ∧ Below w.heap.size w w' := by
  have hemp := some_bytes s (by omega)
  have HNEW := Lib.hid (snew_any s n w hn (by omega))
  have HN := Lib.hid hn
  clear hn
  go_enter Try.func34, Try.ntmps34
  go_wp2_with fail
  refine HNEW.out.mono ?_
  rintro e w1 ⟨b, R, rfl, hS, hR, hB⟩
  have HS := Lib.hid hS
  have HR := Lib.hid hR
  have HB := Lib.hid hB
  have HH := Lib.hid (hS.held (by omega))
  clear hS hR hB
  go_wp2_with fail
  refine HH.out.mono ?_
  rintro e w2 ⟨rfl, m, rfl⟩
  have HF : Hid (∃ R P, Srtd s n R P ∧ TuSt w.heap.size ((w1.drewN m).alloc (.cells #[.string s, .pointer (some ⟨b, 0, none⟩), .int .i64 ((3 * n : Nat) : Int), .slice none 0 0, .slice none 0 0, .int .i64 0, .int .i64 0] 70)) w1.heap.size n s R P 0 ∧ Below w.heap.size w ((w1.drewN m).alloc (.cells #[.string s, .pointer (some ⟨b, 0, none⟩), .int .i64 ((3 * n : Nat) : Int), .slice none 0 0, .slice none 0 0, .int .i64 0, .int .i64 0] 70))) := Lib.hid (by
    have hb2 : Below w1.heap.size w1 ((w1.drewN m).alloc (.cells #[.string s, .pointer (some ⟨b, 0, none⟩), .int .i64 ((3 * n : Nat) : Int), .slice none 0 0, .slice none 0 0, .int .i64 0, .int .i64 0] 70)) := (below_drewN w1 m).trans ((Below.refl w1.heap.size (w1.drewN m)).alloc (Nat.le_refl _) _)
    have hz : ((w1.drewN m).alloc (.cells #[.string s, .pointer (some ⟨b, 0, none⟩), .int .i64 ((3 * n : Nat) : Int), .slice none 0 0, .slice none 0 0, .int .i64 0, .int .i64 0] 70)).heap.size = w1.heap.size + 1 := by show (w1.heap.push _).size = _; simp
    refine ⟨R, sortP s.data.toList n, ⟨HN.out, h0, hs, ?_, HR.out⟩, Or.inl ⟨by omega, b, ?_, ?_⟩, HB.out.trans (hb2.mono HB.out.size)⟩
    · have := sortP_is s.data.toList
      rw [txt_len, HN.out] at this
      exact this
    · exact HS.out.with hb2 [w1.heap.size] (fun g hg => by rw [List.mem_singleton] at hg; subst hg; rw [hz]; omega)
    · exact ⟨tu_box (w1.drewN m) s _ _ _, IsInts.nil _, OwnY.nil _ _, fun e => (by cases e), fun j hj => (by cases hj), HB.out.size, fun j hj => (by cases hj), Or.inl rfl⟩)
  go_wp2_with fail
  go_ret2
  obtain ⟨R2, P2, h1, h2, h3⟩ := HF.out
  exact ⟨_, R2, P2, rfl, h1, h2, h3⟩
set_option maxHeartbeats 1000000 in
theorem bnew_empty (w : World) : Calls Try.prog 34 #[.string ⟨#[]⟩] w fun e w' => e = .returned (.tuple #[.pointer none, .int .i64 1]) ∧ w' = w := by
  go_enter Try.func34, Try.ntmps34
  go_wp2_with fail
  go_ret2
  exact ⟨rfl, rfl⟩
/-! ### How many steps there are at most -/
def mostBw (N : Nat) : Nat := if N < 1 then 0 else min (mostN N + min N 1099511627776) 1099511627776
set_option maxRecDepth 100000 in
set_option maxHeartbeats 2000000 in
theorem bmost_any (n : Int) (w : World) (h1 : -9223372036854775808 ≤ n) (h2 : n ≤ 9223372036854775807) : Calls Try.prog 43 #[.int .i64 n] w fun e w' => e = .returned (.int .i64 (mostBw n.toNat : Int)) ∧ w' = w := by
  by_cases hn : n < 1
  · have e : mostBw n.toNat = 0 := by unfold mostBw; rw [if_pos (by omega)]
    rw [e]
    go_enter Try.func43, Try.ntmps43
    go_wp2_with fail
    go_ret
    exact ⟨rfl, rfl⟩
  · obtain ⟨N, rfl⟩ : ∃ N : Nat, n = (N : Int) := ⟨n.toNat, by omega⟩
    rw [Int.toNat_natCast]
    have HM := Lib.hid (smost_any (N : Int) w h1 h2)
    rw [Int.toNat_natCast] at HM
    have hml := mostN_le N
    have hres : mostBw N = min (mostN N + min N 1099511627776) 1099511627776 := by unfold mostBw; rw [if_neg (by omega)]
    rw [hres]
    obtain ⟨M, hM⟩ : ∃ M, mostN N = M := ⟨_, rfl⟩
    rw [hM] at HM hml ⊢
    obtain ⟨c, hc⟩ : ∃ c, min N 1099511627776 = c := ⟨_, rfl⟩
    have hci : min (N : Int) 1099511627776 = (c : Int) := by omega
    obtain ⟨d, hd⟩ : ∃ d, M + c = d := ⟨_, rfl⟩
    have hdi : (M : Int) + (c : Int) = (d : Int) := by omega
    have hdw : IntKind.i64.wrap (d : Int) = (d : Int) := IntWalk.i64_in _ (by omega)
    obtain ⟨r, hr⟩ : ∃ r, min d 1099511627776 = r := ⟨_, rfl⟩
    have hri : min (d : Int) 1099511627776 = (r : Int) := by omega
    rw [hc, hd, hr]
    clear hres hM hc hd hr
    go_enter Try.func43, Try.ntmps43
    go_wp2_with fail
    refine HM.out.mono ?_
    rintro e w' ⟨rfl, rfl⟩
    go_wp2_with fail
    go_ret
    exact ⟨rfl, rfl⟩
theorem Srtd.most {s : ByteArray} {n R : Nat} {P : List Nat} (h : Srtd s n R P) : R + n ≤ mostBw n ∧ mostBw n ≤ 1099511627776 := by
  obtain ⟨hl1, hl2, hl3, hl4⟩ := h.len
  have h1 := h.le
  have h2 := h.pos
  have h3 := (h.steps.most (by rw [hl2]; exact h1)).1
  rw [hl2] at h3
  have h4 := mostN_le n
  unfold mostBw
  rw [if_neg (by omega)]
  omega
set_option maxRecDepth 100000 in
set_option maxHeartbeats 4000000 in
theorem bof_any (s : ByteArray) (n : Nat) (w : World) (hn : s.size = n) (h0 : 0 < n) (hs : n ≤ 1024) : Calls Try.prog 32 #[.string s] w fun e w' => (∃ P, IsSorted s.data.toList P ∧ e = .returned (.tuple #[.string ⟨(lastN s.data.toList P n).toArray⟩, .int .i64 (orgN P n : Int), .int .i64 0])) ∧ Below w.heap.size w w' := by
  have HNEW := Lib.hid (bnew_any s n w hn h0 hs)
  have HM := Lib.hid (fun W => bmost_any (n : Int) W (by omega) (by omega))
  rw [Int.toNat_natCast] at HM
  obtain ⟨M, hM⟩ : ∃ M, mostBw n = M := ⟨_, rfl⟩
  rw [hM] at HM
  have HME := Lib.hid hM
  have hsi : (s.size : Int) = (n : Int) := by omega
  clear hn hM
  go_enter Try.func32, Try.ntmps32
  go_wp2_with fail
  refine HNEW.out.mono ?_
  rintro e w1 ⟨t, R, P, rfl, hsr, hT, hB⟩
  have HB := Lib.hid hB
  have HSR := Lib.hid hsr
  have hm := hsr.most
  rw [HME.out] at hm
  have HST := Lib.hid (bstep_any w1 (M : Int) hsr hT hT.lt (by omega) hB.size)
  rw [Int.toNat_natCast, Nat.sub_zero, Nat.min_eq_right hm.1] at HST
  have HORD := Lib.hid hsr.ord
  clear hsr hT hB
  go_wp2_with fail
  refine (HM.out _).mono ?_
  rintro e w2 ⟨rfl, rfl⟩
  go_wp2_with fail
  refine HST.out.mono ?_
  rintro e w3 ⟨rfl, hT3, hB3⟩
  rw [Nat.zero_add] at hT3
  have HRES := Lib.hid ((hT3.tells HSR.out).2.2.2.2 rfl)
  have HB3 := Lib.hid (HB.out.trans hB3)
  clear hT3 hB3
  obtain ⟨L, hL⟩ : ∃ L : ByteArray, (⟨(lastN s.data.toList P n).toArray⟩ : ByteArray) = L := ⟨_, rfl⟩
  rw [hL] at HRES
  have HL := Lib.hid hL
  clear hL
  go_wp2_with fail
  refine HRES.out.mono ?_
  rintro e w4 ⟨rfl, m, rfl⟩
  have HB4 := Lib.hid (HB3.out.trans (belowB_drewN w.heap.size w3 m))
  go_wp2_with fail
  go_ret3
  exact ⟨⟨P, HORD.out, by rw [HL.out]; rfl⟩, HB4.out⟩
end Go.Proofs.Ytfedhppcmmponaa
namespace Go.Proofs.Ytfedhppcmmponaa
open Go.RowKit BwtM SrtM PkM
set_option linter.unusedVariables false
set_option linter.unusedSimpArgs false
/-- What has all of some unlike things and no more than these has just these. -/
theorem perm_of_all : ∀ (L zs : List Int), L.Nodup → (∀ x ∈ L, x ∈ zs) → L.length ≤ zs.length ∧ (L.length = zs.length → zs.Perm L)
  | [], zs, _, _ => ⟨Nat.zero_le _, fun h => by
    have : zs = [] := List.eq_nil_of_length_eq_zero h.symm
    rw [this]⟩
  | x :: L, zs, hn, hs => by
    have hx : x ∈ zs := hs x (List.mem_cons_self ..)
    have hp := List.perm_cons_erase hx
    obtain ⟨h1, h2⟩ := perm_of_all L (zs.erase x) (List.nodup_cons.1 hn).2 (fun y hy => (List.mem_erase_of_ne (fun (e : y = x) => (List.nodup_cons.1 hn).1 (e ▸ hy))).2 (hs y (List.mem_cons_of_mem _ hy)))
    have hl := hp.length_eq
    rw [List.length_cons] at hl
    refine ⟨by rw [List.length_cons]; omega, fun h => hp.trans ((h2 (by rw [List.length_cons] at h; omega)).cons x)⟩
/-- zs has each of n places, each once. -/
def OrdOf (zs : List Int) (n : Nat) : Prop := ∃ P, zs = toI P ∧ P.Perm (List.range n)
theorem toI_nodup {P : List Nat} (h : P.Nodup) : (toI P).Nodup := by
  unfold toI
  rw [List.nodup_iff_pairwise_ne, List.pairwise_map]
  exact (List.nodup_iff_pairwise_ne.1 h).imp (fun h e => h (by omega))
theorem toI_of {zs : List Int} (h : ∀ z ∈ zs, 0 ≤ z) : zs = toI (zs.map Int.toNat) := by
  unfold toI
  rw [List.map_map]
  conv => lhs; rw [← List.map_id zs]
  exact List.map_congr_left (fun z hz => by have := h z hz; simp; omega)
theorem ordOf_perm {zs : List Int} {n : Nat} (h : zs.Perm (toI (List.range n))) : OrdOf zs n := by
  have h0 : ∀ z ∈ zs, 0 ≤ z := fun z hz => by
    have := h.mem_iff.1 hz
    unfold toI at this
    obtain ⟨x, _, rfl⟩ := List.mem_map.1 this
    omega
  refine ⟨zs.map Int.toNat, toI_of h0, ?_⟩
  have := h.map Int.toNat
  unfold toI at this
  rw [List.map_map] at this
  have e : (List.range n).map (Int.toNat ∘ fun (x : Nat) => (x : Int)) = List.range n := by
    conv => rhs; rw [← List.map_id (List.range n)]
    exact List.map_congr_left (fun x _ => by simp)
  rw [e] at this
  exact this
/-- All places stand in it, and no more stands there. -/
theorem ordOf_marks {zs : List Int} {n : Nat} : OrdOf zs n ↔ zs.length = n ∧ ∀ i, i < n → (i : Int) ∈ zs := by
  constructor
  · rintro ⟨P, rfl, hp⟩
    refine ⟨by rw [toI_length, hp.length_eq, List.length_range], fun i hi => ?_⟩
    unfold toI
    exact List.mem_map.2 ⟨i, hp.mem_iff.2 (List.mem_range.2 hi), rfl⟩
  · rintro ⟨hl, h⟩
    have hnd : (toI (List.range n)).Nodup := toI_nodup List.nodup_range
    have := (perm_of_all (toI (List.range n)) zs hnd (fun x hx => by
      unfold toI at hx
      obtain ⟨i, hi, rfl⟩ := List.mem_map.1 hx
      exact h i (List.mem_range.1 hi))).2 (by rw [toI_length, List.length_range, hl])
    exact ordOf_perm this
/-- All of it are places, no two the same. -/
theorem ordOf_unlike {zs : List Int} {n : Nat} : OrdOf zs n ↔ zs.length = n ∧ (∀ z ∈ zs, 0 ≤ z ∧ z < (n : Int)) ∧ zs.Nodup := by
  constructor
  · rintro ⟨P, rfl, hp⟩
    refine ⟨by rw [toI_length, hp.length_eq, List.length_range], fun z hz => ?_, toI_nodup (hp.nodup_iff.2 List.nodup_range)⟩
    unfold toI at hz
    obtain ⟨x, hx, rfl⟩ := List.mem_map.1 hz
    have := List.mem_range.1 (hp.mem_iff.1 hx)
    omega
  · rintro ⟨hl, hr, hn⟩
    have := (perm_of_all zs (toI (List.range n)) hn (fun z hz => by
      obtain ⟨h1, h2⟩ := hr z hz
      unfold toI
      exact List.mem_map.2 ⟨z.toNat, List.mem_range.2 (by omega), by omega⟩)).2 (by rw [toI_length, List.length_range, hl])
    exact ordOf_perm this.symm
/-! ### The code's isOrder -/
def RowT (w : World) (g : Nat) (l : List Bool) : Prop := w.heap[g]? = some (.cells (l.map Value.bool).toArray 4 (0, 0))
theorem RowT.cell {w : World} {g : Nat} {l : List Bool} (h : RowT w g l) {i : Nat} (hi : i < l.length) : w.cell? ⟨g, i, none⟩ = some (.bool (l.getD i false)) ∧ w.frozen? ⟨g, i, none⟩ = false ∧
    ∀ x : Bool, RowT (w.setCell ⟨g, i, none⟩ (.bool x)) g (l.set i x) := by
  refine ⟨?_, frozen_of_row _ _ _ _ _ h, fun x => ?_⟩
  · rw [cell_of_row _ _ _ _ _ _ h]
    simp [List.getD_eq_getElem?_getD, hi]
  · unfold RowT
    rw [heap_setCell_same w g i _ _ _ h]
    congr 2
    apply Array.toList_inj.1
    simp [List.map_set]
set_option maxHeartbeats 1000000 in
theorem make_bools (n : Nat) (hn : n ≤ 1000000) (W : World) : (Instr.makeSlice 79 (.int .i64 (n : Int)) (.int .i64 (n : Int))).run Try.prog W = .ok (.slice (some ⟨W.heap.size, 0, none⟩) n n) (W.alloc (.cells (madeCells #[Value.bool false] n) 4)) := by
  obtain ⟨i0, hi, hz0, hz1, hz2⟩ := info_parts (show (Try.prog.info? 4).map (fun i => (i.zero, i.size, i.bytes)) = some (some (.bool false), 1, 1) by kernel_rfl)
  have := run_make (P := Try.prog) W 79 4 i0 (.bool false) Try.underlying79 hi hz0 .i64 .i64 (n : Int) (n : Int) (by omega) (by omega) (by rw [hz2]; omega) (by omega)
  rw [hz1] at this
  simpa [Value.cells] using this
theorem RowT.made (w : World) (n : Nat) : RowT (w.alloc (.cells (madeCells #[Value.bool false] n) 4)) w.heap.size (List.replicate n false) := by
  unfold RowT
  rw [heap_alloc_new]
  congr 2
  apply Array.toList_inj.1
  rw [toList_madeCells_one]
  simp
/-- Which places are marked behind the first j. -/
def marks (zs : List Int) (n j : Nat) : List Bool := (List.range n).map fun (i : Nat) => decide ((i : Int) ∈ zs.take j)
theorem marks_len (zs : List Int) (n j : Nat) : (marks zs n j).length = n := by simp [marks]
theorem marks_zero (zs : List Int) (n : Nat) : marks zs n 0 = List.replicate n false := by
  unfold marks
  apply List.ext_getElem
  · simp
  · intro i h1 h2; simp
theorem marks_get (zs : List Int) {n j i : Nat} (h : i < n) : (marks zs n j).getD i false = decide ((i : Int) ∈ zs.take j) := by
  unfold marks
  rw [List.getD_eq_getElem?_getD, List.getElem?_map, List.getElem?_range h]
  rfl
theorem marks_el (zs : List Int) {n j i : Nat} (h : i < (marks zs n j).length) : (marks zs n j)[i] = decide ((i : Int) ∈ zs.take j) := by simp [marks]
theorem take_next {zs : List Int} {j : Nat} (h : j < zs.length) : zs.take (j + 1) = zs.take j ++ [zs.getD j 0] := by
  rw [List.take_succ_eq_append_getElem h, List.getD_eq_getElem?_getD, List.getElem?_eq_getElem h]
  rfl
theorem marks_in {zs : List Int} {n j p : Nat} (h : j < zs.length) (hp : zs.getD j 0 = (p : Int)) (hpn : p < n) : (marks zs n j).set p true = marks zs n (j + 1) := by
  apply List.ext_getElem
  · simp [marks]
  · intro i h1 h2
    have hi : i < n := by simpa [marks] using h2
    rw [List.getElem_set, marks_el, marks_el, take_next h, hp]
    by_cases e : p = i
    · subst e; simp
    · rw [if_neg e, decide_eq_decide]
      simp only [List.mem_append, List.mem_singleton]
      constructor
      · exact Or.inl
      · rintro (h | h)
        · exact h
        · omega
theorem marks_out {zs : List Int} {n j : Nat} (h : j < zs.length) (hp : ¬ (0 ≤ zs.getD j 0 ∧ zs.getD j 0 < (n : Int))) : marks zs n j = marks zs n (j + 1) := by
  apply List.ext_getElem
  · simp [marks]
  · intro i h1 h2
    have hi : i < n := by simpa [marks] using h2
    rw [marks_el, marks_el, take_next h, decide_eq_decide]
    simp only [List.mem_append, List.mem_singleton]
    constructor
    · exact Or.inl
    · rintro (h | h)
      · exact h
      · omega
theorem RowT.below {w w' : World} {g : Nat} {l : List Bool} (h : RowT w g l) (hb : Below w.heap.size w w') : RowT w' g l := (hb.block g (Array.getElem?_eq_some_iff.1 h).1).trans h
set_option maxRecDepth 100000 in
set_option maxHeartbeats 4000000 in
theorem isOrder_any (v : Value) (zs : List Int) (n : Nat) (r : Bool) (w : World) (hv : IsInts w v zs) (hr : r = true ↔ OrdOf zs n) (hn : n ≤ 500000) (hz : zs.length ≤ 9223372036854775807) : Calls Try.prog 52 #[v, .int .i64 (n : Int)] w fun e w' => e = .returned (.bool r) ∧ Below w.heap.size w w' := by
  have HV := Lib.hid hv
  have HR := Lib.hid hr
  obtain ⟨a, cap, rfl, _⟩ := hv
  obtain ⟨m, hm⟩ : ∃ m, zs.length = m := ⟨_, rfl⟩
  have HM := Lib.hid hm
  rw [hm] at HV hz ⊢
  clear hr hm
  by_cases hmn : m = n
  · have h1 : ((m : Int) != (n : Int)) = false := by rw [bne_eq_false_iff_eq]; omega
    have hmk := make_bools n (by omega)
    subst hmn
    have HR0 : Hid (RowT (w.alloc (.cells (madeCells #[Value.bool false] m) 4)) w.heap.size (marks zs m 0)) := Lib.hid (by rw [marks_zero]; exact RowT.made w m)
    have HB0 : Hid (Below w.heap.size w (w.alloc (.cells (madeCells #[Value.bool false] m) 4))) := Lib.hid ((Below.refl _ _).alloc (Nat.le_refl _) _)
    go_enter Try.func52, Try.ntmps52
    go_wp2_with fail
    go_loopw [17] (fun vj wr => ∃ j : Nat, vj = .int .i64 (j : Int) ∧ j ≤ m ∧ RowT wr w.heap.size (marks zs m j) ∧ Below w.heap.size w wr) (fun vj _ => m - (intOf vj).toNat)
    case atStart => exact ⟨0, rfl, Nat.zero_le _, HR0.out, HB0.out⟩
    case round =>
      clear HR0 HB0 hmk
      obtain ⟨j, rfl, hj, hRT, hB⟩ := hrel
      have HRT := Lib.hid hRT
      have HB := Lib.hid hB
      clear hRT hB
      by_cases hjm : j < m
      · have hji : (j : Int) < (m : Int) := by omega
        obtain ⟨bb, off, cp, hvv, hc⟩ := (HV.out.below HB.out).cell (k := j) (by rw [HM.out]; exact hjm)
        obtain ⟨z, hz2⟩ : ∃ z, zs.getD j 0 = z := ⟨_, rfl⟩
        rw [hz2] at hc
        have HZ := Lib.hid hz2
        simp only [Value.slice.injEq] at hvv
        obtain ⟨rfl, hxx, rfl⟩ := hvv
        clear hxx hz2
        by_cases hin : 0 ≤ z ∧ z < (m : Int)
        · obtain ⟨p, rfl⟩ : ∃ p : Nat, z = (p : Int) := ⟨z.toNat, by omega⟩
          have hpm : p < m := by omega
          have hp0 : (p : Int) ≥ 0 := by omega
          have hpmi : (p : Int) < (m : Int) := by omega
          have cP := (HRT.out.cell (i := p) (by rw [marks_len]; exact hpm)).1
          have fP := (HRT.out.cell (i := p) (by rw [marks_len]; exact hpm)).2.1
          have HR2 : Hid (RowT (wr.setCell ⟨w.heap.size, p, none⟩ (.bool true)) w.heap.size (marks zs m (j + 1))) := Lib.hid (by
            rw [← marks_in (by rw [HM.out]; exact hjm) HZ.out hpm]
            exact (HRT.out.cell (i := p) (by rw [marks_len]; exact hpm)).2.2 true)
          have HB2 : Hid (Below w.heap.size w (wr.setCell ⟨w.heap.size, p, none⟩ (.bool true))) := Lib.hid (HB.out.setCell (p := ⟨w.heap.size, p, none⟩) (Nat.le_refl _) _)
          clear hin
          go_wp2_with fail
          go_roundw
          case rel => exact ⟨j + 1, by go_num, by omega, HR2.out, HB2.out⟩
          case measure => simp [intOf]; omega
        · have HR2 : Hid (RowT wr w.heap.size (marks zs m (j + 1))) := Lib.hid (by
            rw [← marks_out (by rw [HM.out]; exact hjm) (by rw [HZ.out]; exact hin)]
            exact HRT.out)
          by_cases hz0 : z < 0
          · have h0 : ¬ z ≥ 0 := by omega
            clear hin
            go_wp2_with fail
            go_roundw
            case rel => exact ⟨j + 1, by go_num, by omega, HR2.out, HB.out⟩
            case measure => simp [intOf]; omega
          · have h0 : z ≥ 0 := by omega
            have h3 : ¬ z < (m : Int) := by omega
            clear hin hz0
            go_wp2_with fail
            go_roundw
            case rel => exact ⟨j + 1, by go_num, by omega, HR2.out, HB.out⟩
            case measure => simp [intOf]; omega
      · have hji : ¬ (j : Int) < (m : Int) := by omega
        have hjE : j = m := by omega
        subst hjE
        obtain ⟨wa, rfl⟩ : ∃ wa : World, wa = wr := ⟨_, rfl⟩
        have HTK : Hid (zs.take j = zs) := Lib.hid (List.take_of_length_le (by rw [HM.out]; exact Nat.le_refl _))
        go_wp2_with fail
        go_loopw [33] (fun vi wr => ∃ i : Nat, vi = .int .i64 (i : Int) ∧ i ≤ j ∧ (∀ q, q < i → (q : Int) ∈ zs) ∧ wr = wa) (fun vi _ => j - (intOf vi).toNat)
        case atStart => exact ⟨0, rfl, Nat.zero_le _, fun q h => by omega, rfl⟩
        case round =>
          obtain ⟨i, rfl, hi, hq, rfl⟩ := hrel
          have HQ := Lib.hid hq
          clear hq
          by_cases hij : i < j
          · have hiji : (i : Int) < (j : Int) := by omega
            have cI := (HRT.out.cell (i := i) (by rw [marks_len]; exact hij)).1
            rw [marks_get zs hij, HTK.out] at cI
            by_cases hmem : (i : Int) ∈ zs
            · rw [decide_eq_true hmem] at cI
              have HMM := Lib.hid hmem
              clear hmem
              go_wp2_with fail
              go_roundw
              case rel => exact ⟨i + 1, by go_num, by omega, fun q hq => by
                rcases (by omega : q < i ∨ q = i) with e | e
                · exact HQ.out q e
                · rw [e]; exact HMM.out, trivial⟩
              case measure => simp [intOf]; omega
            · rw [decide_eq_false hmem] at cI
              have hrf : r = false := by
                rcases Bool.eq_false_or_eq_true r with c | c
                · exact absurd ((ordOf_marks.1 (HR.out.1 c)).2 i hij) hmem
                · exact c
              subst hrf
              clear hmem
              go_wp2_with fail
              go_ret
              exact ⟨rfl, HB.out⟩
          · have hiji : ¬ (i : Int) < (j : Int) := by omega
            have hrt : r = true := HR.out.2 (ordOf_marks.2 ⟨HM.out, fun q hq => HQ.out q (by omega)⟩)
            subst hrt
            go_wp2_with fail
            go_ret
            exact ⟨rfl, HB.out⟩
  · have h1 : ((m : Int) != (n : Int)) = true := by rw [bne_iff_ne]; omega
    have hrf : r = false := by
      rcases Bool.eq_false_or_eq_true r with c | c
      · exact absurd (ordOf_marks.1 (HR.out.1 c)).1 (by rw [HM.out]; exact hmn)
      · exact c
    subst hrf
    clear hmn
    go_enter Try.func52, Try.ntmps52
    go_wp2_with fail
    go_ret
    exact ⟨rfl, Below.refl _ _⟩
end Go.Proofs.Ytfedhppcmmponaa
namespace Go.Proofs.Ytfedhppcmmponaa
open Go.RowKit BwtM SrtM PkM
set_option linter.unusedVariables false
set_option linter.unusedSimpArgs false
set_option maxRecDepth 100000 in
set_option maxHeartbeats 4000000 in
theorem bfrom_any (s : ByteArray) (n : Nat) (P : List Nat) (bo off cap : Nat) (w : World) (hn : s.size = n) (h0 : 0 < n) (hs : n ≤ 1024) (hp : P.Perm (List.range n)) (hv : IsInts w (.slice (some ⟨bo, off, none⟩) n cap) (toI P)) (hbo : bo < w.heap.size) (hc1 : n ≤ cap) (hc2 : cap ≤ 9223372036854775807) :
    Calls Try.prog 29 #[.string s, .slice (some ⟨bo, off, none⟩) n cap] w fun e w' => e = .returned (.tuple #[.string ⟨(lastN s.data.toList P n).toArray⟩, .int .i64 (orgN P n : Int), .int .i64 0]) ∧ Below w.heap.size w w' := by
  have hemp := some_bytes s (by omega)
  have hlp : P.length = n := by rw [hp.length_eq, List.length_range]
  have HO := Lib.hid (isOrder_any (.slice (some ⟨bo, off, none⟩) n cap) (toI P) n true w hv ⟨fun _ => ⟨P, rfl, hp⟩, fun _ => rfl⟩ (by omega) (by rw [toI_length, hlp]; omega))
  have hsi : (s.size : Int) = (n : Int) := by omega
  have HN := Lib.hid hn
  have HV := Lib.hid hv
  have HLP := Lib.hid hlp
  have HPM : Hid (∀ p ∈ P, p < n) := Lib.hid (fun p h => List.mem_range.1 (hp.mem_iff.1 h))
  clear hn hv hlp hp
  go_enter Try.func29, Try.ntmps29
  go_wp2_with fail
  refine HO.out.mono ?_
  rintro e w1 ⟨rfl, hb1⟩
  have HB1 := Lib.hid hb1
  have HT1 : Hid (IsTu w.heap.size (w1.alloc (.cells #[.string s, .pointer none, .int .i64 0, .slice (some ⟨bo, off, none⟩) n cap, .slice none 0 0, .int .i64 0, .int .i64 0] 70)) w1.heap.size s (.pointer none) 0 (toI (P.drop 0)) (lastN s.data.toList P 0) (orgN P 0) 0 (.slice (some ⟨bo, off, none⟩) n cap) (.slice none 0 0)) := Lib.hid (by
    have hz := hb1.size
    refine ⟨tu_box w1 s (.pointer none) 0 _, (HV.out.below hb1).alloc _, OwnY.nil _ _, fun e => ?_, fun j hj => (by cases hj), hz, fun j hj => ?_, Or.inr ⟨bo, off, n, cap, rfl, hc1, hc2⟩⟩
    · simp [Value.ownBlock] at e; omega
    · simp [Value.ownBlock] at hj; simp; omega)
  have HB2 : Hid (Below w.heap.size w (w1.alloc (.cells #[.string s, .pointer none, .int .i64 0, .slice (some ⟨bo, off, none⟩) n cap, .slice none 0 0, .int .i64 0, .int .i64 0] 70))) := Lib.hid (hb1.alloc hb1.size _)
  clear hb1
  go_wp2_with fail
  generalize w1.alloc (.cells #[.string s, .pointer none, .int .i64 0, .slice (some ⟨bo, off, none⟩) n cap, .slice none 0 0, .int .i64 0, .int .i64 0] 70) = w2 at *
  refine (btake_any w2 P 0 n bo off cap n (.slice none 0 0) HT1.out (by rw [HN.out]; exact HPM.out) (Nat.zero_le _) (by rw [HLP.out]; omega) hc1 hc2 (by rw [HLP.out]; omega) (by rw [HN.out]; omega) (by omega) HB2.out.size).mono ?_
  rintro e w3 ⟨rfl, b3, o3, n3, c3, v3, h3, _, hb3⟩
  rw [Nat.min_self, Nat.zero_add] at h3
  have HR := Lib.hid (bresult_yes h3 (by rw [HN.out]; exact h0) (by rw [HN.out]; omega) (by rw [lastN_len (by rw [HLP.out]; exact Nat.le_refl _), HN.out]))
  have HB3 := Lib.hid (HB2.out.trans hb3)
  clear h3 hb3
  obtain ⟨L, hL⟩ : ∃ L : ByteArray, (⟨(lastN s.data.toList P n).toArray⟩ : ByteArray) = L := ⟨_, rfl⟩
  rw [hL] at HR
  have HL := Lib.hid hL
  clear hL
  go_wp2_with fail
  refine HR.out.mono ?_
  rintro e w4 ⟨rfl, m, rfl⟩
  have HB4 := Lib.hid (HB3.out.trans (belowB_drewN w.heap.size w3 m))
  go_wp2_with fail
  go_ret3
  exact ⟨by rw [HL.out]; rfl, HB4.out⟩
set_option maxRecDepth 100000 in
set_option maxHeartbeats 2000000 in
theorem bfrom_no (s : ByteArray) (v : Value) (zs : List Int) (w : World) (hs : s.size ≤ 1024) (h : s.size = 0 ∨ ¬ OrdOf zs s.size) (hv : IsInts w v zs) (hz : zs.length ≤ 9223372036854775807) :
    Calls Try.prog 29 #[.string s, v] w fun e w' => e = .returned (.tuple #[.string ⟨#[]⟩, .int .i64 0, .int .i64 1]) ∧ Below w.heap.size w w' := by
  by_cases h0 : s.size = 0
  · obtain rfl := no_bytes s h0
    clear h h0 hs
    go_enter Try.func29, Try.ntmps29
    go_wp2_with fail
    go_ret3
    exact ⟨rfl, Below.refl _ _⟩
  · have hemp := some_bytes s (by omega)
    have HO := Lib.hid (isOrder_any v zs s.size false w hv ⟨fun e => (by cases e), fun e => absurd e (h.resolve_left h0)⟩ (by omega) hz)
    clear h h0 hv hz
    go_enter Try.func29, Try.ntmps29
    go_wp2_with fail
    refine HO.out.mono ?_
    rintro e w1 ⟨rfl, hb1⟩
    have HB1 := Lib.hid hb1
    clear hb1
    go_wp2_with fail
    go_ret3
    exact ⟨rfl, HB1.out⟩
/-! ### The document's Ordered -/
theorem mem_take {zs : List Int} {z : Int} {i : Nat} (h : z ∈ zs.take i) : ∃ c, c < i ∧ c < zs.length ∧ zs.getD c 0 = z := by
  obtain ⟨c, hc, e⟩ := List.getElem_of_mem h
  rw [List.length_take] at hc
  refine ⟨c, by omega, by omega, ?_⟩
  rw [List.getD_eq_getElem?_getD, List.getElem?_eq_getElem (by omega)]
  rw [List.getElem_take] at e
  exact e
set_option maxRecDepth 100000 in
set_option maxHeartbeats 4000000 in
theorem ordered_any (bo off m cap n : Nat) (zs : List Int) (r : Bool) (w : World) (hv : IsInts w (.slice (some ⟨bo, off, none⟩) m cap) zs) (hm : zs.length = m) (hr : r = true ↔ OrdOf zs n) (hm2 : m ≤ 500000) (hn : n ≤ 500000) (hc1 : m ≤ cap) (hc2 : cap ≤ 9223372036854775807) :
    Calls Try.prog 30 #[.slice (some ⟨bo, off, none⟩) m cap, .int .i64 (n : Int)] w fun e w' => e = .returned (.bool r) ∧ w' = w := by
  have HV := Lib.hid hv
  have HR := Lib.hid hr
  have HM := Lib.hid hm
  have HCELL : Hid (∀ j, j < m → w.cell? ⟨bo, off + j, none⟩ = some (.int .i64 (zs.getD j 0))) := Lib.hid (fun j hj => by
    obtain ⟨b2, o2, c2, e2, hc⟩ := hv.cell (k := j) (by rw [hm]; exact hj)
    simp only [Value.slice.injEq, Option.some.injEq, Addr.mk.injEq] at e2
    obtain ⟨⟨rfl, rfl, _⟩, _, _⟩ := e2
    exact hc)
  have HSL := Lib.hid (fun (g : Nat) (hg : g ≤ m) W => osl_h bo off m cap g hg hc1 hc2 W)
  clear hv hr hm
  go_enter Try.func30, Try.ntmps30
  go_wp2_with fail
  go_loop [11] (fun vi => ∃ i : Nat, vi = .int .i64 (i : Int) ∧ i ≤ m ∧ (∀ z ∈ zs.take i, 0 ≤ z ∧ z < (n : Int)) ∧ (zs.take i).Nodup) (fun vi => m - (intOf vi).toNat)
  case atStart => exact ⟨0, rfl, Nat.zero_le _, fun z hz => (by simp at hz), by simp⟩
  case round =>
    obtain ⟨i, rfl, hi, hin, hnd⟩ := hrel
    have HIN := Lib.hid hin
    have HND := Lib.hid hnd
    clear hin hnd
    by_cases him : i < m
    · have hii : (i : Int) < (m : Int) := by omega
      have cI := HCELL.out i him
      obtain ⟨z, hz⟩ : ∃ z, zs.getD i 0 = z := ⟨_, rfl⟩
      rw [hz] at cI
      have HZ := Lib.hid hz
      have HZM : Hid (z ∈ zs) := Lib.hid (by
        rw [← hz, List.getD_eq_getElem?_getD, List.getElem?_eq_getElem (by rw [HM.out]; exact him)]
        exact List.getElem_mem _)
      have hsl := HSL.out i hi
      clear hz
      have HNO : Hid (¬ (0 ≤ z ∧ z < (n : Int)) → r = false) := Lib.hid (fun hno => by
        rcases Bool.eq_false_or_eq_true r with c | c
        · exact absurd ((ordOf_unlike.1 (HR.out.1 c)).2.1 z HZM.out) hno
        · exact c)
      by_cases hz0 : z < 0
      · have hrf := HNO.out (by omega)
        subst hrf
        go_wp2_with fail
        go_ret
        exact ⟨rfl, rfl⟩
      · by_cases hzn : z ≥ (n : Int)
        · have hrf := HNO.out (by omega)
          subst hrf
          go_wp2_with fail
          go_ret
          exact ⟨rfl, rfl⟩
        · have HZR : Hid (0 ≤ z ∧ z < (n : Int)) := Lib.hid (by omega)
          go_wp2_with fail
          go_loop [27] (fun vk => ∃ k : Nat, vk = .int .i64 (k : Int) ∧ k ≤ i ∧ ∀ c, c < k → zs.getD c 0 ≠ z) (fun vk => i - (intOf vk).toNat)
          case atStart => exact ⟨0, rfl, Nat.zero_le _, fun c h => by omega⟩
          case round =>
            obtain ⟨k, rfl, hk, hne⟩ := hrel
            have HNE := Lib.hid hne
            clear hne
            by_cases hki : k < i
            · have hkii : (k : Int) < (i : Int) := by omega
              have cK := HCELL.out k (by omega)
              obtain ⟨y, hy⟩ : ∃ y, zs.getD k 0 = y := ⟨_, rfl⟩
              rw [hy] at cK
              have HY := Lib.hid hy
              clear hy
              by_cases hyz : z = y
              · have hE : (z == y) = true := by rw [beq_iff_eq]; exact hyz
                have hrf : r = false := by
                  rcases Bool.eq_false_or_eq_true r with c | c
                  · have hnd := (ordOf_unlike.1 (HR.out.1 c)).2.2
                    rw [List.nodup_iff_pairwise_ne, List.pairwise_iff_getElem] at hnd
                    have h5 := hnd k i (by rw [HM.out]; omega) (by rw [HM.out]; omega) hki
                    have e1 : zs.getD k 0 = zs[k]'(by rw [HM.out]; omega) := by rw [List.getD_eq_getElem?_getD, List.getElem?_eq_getElem (by rw [HM.out]; omega)]; rfl
                    have e2 : zs.getD i 0 = zs[i]'(by rw [HM.out]; omega) := by rw [List.getD_eq_getElem?_getD, List.getElem?_eq_getElem (by rw [HM.out]; omega)]; rfl
                    rw [← e1, ← e2, HY.out, HZ.out] at h5
                    exact absurd hyz.symm h5
                  · exact c
                subst hrf
                clear hyz
                go_wp2_with fail
                go_ret
                exact ⟨rfl, rfl⟩
              · have hE : (z == y) = false := by rw [beq_eq_false_iff_ne]; exact hyz
                have HNY : Hid (y ≠ z) := Lib.hid (fun e => hyz e.symm)
                clear hyz
                go_wp2_with fail
                go_round
                case rel => exact ⟨k + 1, by go_num, by omega, fun c hc => by
                  rcases (by omega : c < k ∨ c = k) with e | e
                  · exact HNE.out c e
                  · rw [e, HY.out]; exact HNY.out⟩
                case measure => simp [intOf]; omega
            · have hkii : ¬ (k : Int) < (i : Int) := by omega
              have HIN2 : Hid ((∀ x ∈ zs.take (i + 1), 0 ≤ x ∧ x < (n : Int)) ∧ (zs.take (i + 1)).Nodup) := Lib.hid (by
                rw [take_next (by rw [HM.out]; exact him), HZ.out]
                constructor
                · intro x hx
                  rcases List.mem_append.1 hx with hx | hx
                  · exact HIN.out x hx
                  · rw [List.mem_singleton] at hx
                    rw [hx]; exact HZR.out
                · rw [List.nodup_append]
                  refine ⟨HND.out, by simp, fun a ha b hb => ?_⟩
                  rw [List.mem_singleton] at hb
                  obtain ⟨c, hc1, _, hc3⟩ := mem_take ha
                  rw [hb, ← hc3]
                  exact HNE.out c (by omega))
              go_wp2_with fail
              go_round
              case rel => exact ⟨i + 1, by go_num, by omega, HIN2.out.1, HIN2.out.2⟩
              case measure => simp [intOf]; omega
    · have hii : ¬ (i : Int) < (m : Int) := by omega
      have hie : zs.take i = zs := List.take_of_length_le (by rw [HM.out]; omega)
      have HALL := Lib.hid (And.intro HIN.out HND.out)
      rw [hie] at HALL
      have hrr : ((m : Int) == (n : Int)) = r := by
        rw [Bool.eq_iff_iff, beq_iff_eq, HR.out, ordOf_unlike, HM.out]
        constructor
        · intro h; exact ⟨by omega, HALL.out.1, HALL.out.2⟩
        · rintro ⟨h, _⟩; omega
      clear hie
      go_wp2_with fail
      go_ret
      exact ⟨rfl, rfl⟩
end Go.Proofs.Ytfedhppcmmponaa
namespace Go.Proofs.Ytfedhppcmmponaa
open Go.RowKit BwtM SrtM PkM
set_option linter.unusedVariables false
set_option linter.unusedSimpArgs false
theorem rot_last (s : ByteArray) (n p : Nat) (hn : s.size = n) (hp : p < n) : (rotT s p).extract (n - 1) n = ⟨#[lastB s.data.toList p]⟩ := by
  have hl : s.data.toList.length = n := (txt_len s).trans hn
  have hr : (rotT s p).size = n := by rw [rotT_size s p (by omega), hn]
  rw [text_inj]
  have e := rot_dataD (rotT s p) (n - 1)
  rw [hr] at e
  rw [e, rotT_data, lastB_rot (by rw [hl]; exact hp)]
  have h2 := rot_len s.data.toList p (by rw [hl]; omega)
  rw [hl] at h2
  show List.drop (n - 1) (rot s.data.toList p) = [(rot s.data.toList p).getLastD 0]
  have h7 : (rot s.data.toList p).getLastD 0 = (rot s.data.toList p).getD (n - 1) 0 := by
    rw [List.getLastD_eq_getLast?, List.getLast?_eq_getElem?, h2, List.getD_eq_getElem?_getD]
  rw [List.drop_eq_getElem_cons (by omega), List.drop_of_length_le (by omega), h7, List.getD_eq_getElem?_getD, List.getElem?_eq_getElem (by omega)]
  rfl
/-- What the document's answer holds. -/
def TwoC (w : World) (o : Nat) (L : ByteArray) (og : Nat) : Prop := w.heap[o]? = some (.cells #[.string L, .int .i64 (og : Int)] 47 (0, 0))
theorem TwoC.cells {w : World} {o og : Nat} {L : ByteArray} (h : TwoC w o L og) : w.cell? ⟨o, 0, none⟩ = some (.string L) ∧ w.cell? ⟨o, 1, none⟩ = some (.int .i64 (og : Int)) ∧ w.frozen? ⟨o, 0, none⟩ = false ∧ w.frozen? ⟨o, 1, none⟩ = false :=
  ⟨by rw [cell_of_row _ _ 0 _ _ _ h]; rfl, by rw [cell_of_row _ _ 1 _ _ _ h]; rfl, frozen_of_row _ _ _ _ _ h, frozen_of_row _ _ _ _ _ h⟩
theorem TwoC.set0 {w : World} {o og : Nat} {L : ByteArray} (h : TwoC w o L og) (L' : ByteArray) : TwoC (w.setCell ⟨o, 0, none⟩ (.string L')) o L' og := by
  unfold TwoC
  rw [heap_setCell_same w o 0 _ _ _ h]
  rfl
theorem TwoC.set1 {w : World} {o og : Nat} {L : ByteArray} (h : TwoC w o L og) (x : Nat) : TwoC (w.setCell ⟨o, 1, none⟩ (.int .i64 (x : Int))) o L x := by
  unfold TwoC
  rw [heap_setCell_same w o 1 _ _ _ h]
  rfl
theorem turned_one (L : ByteArray) (og : Int) : (#[Value.string L, Value.int .i64 og]).all (·.oneCell') = true := by kernel_rfl
theorem tinfo : (Try.prog.info? 47).map (·.size) = some 2 := by kernel_rfl
set_option maxRecDepth 100000 in
set_option maxHeartbeats 4000000 in
theorem rfrom_any (s : ByteArray) (n : Nat) (P : List Nat) (v : Value) (w : World) (hn : s.size = n) (h0 : 0 < n) (hs : n ≤ 1024) (hp : ∀ p ∈ P, p < n) (hlp : P.length = n) (hv : IsInts w v (toI P)) :
    Calls Try.prog 31 #[.string s, v] w fun e w' => e = .returned (.agg #[.string ⟨(lastN s.data.toList P n).toArray⟩, .int .i64 (orgN P n : Int)]) ∧ Below w.heap.size w w' := by
  have HROT := Lib.hid (fun (p : Nat) W (h : p < n) => rrotation_any s p W (by omega) (by omega))
  have HP := Lib.hid hp
  have HLP := Lib.hid hlp
  have HV := Lib.hid hv
  have HN := Lib.hid hn
  obtain ⟨a, cap, rfl, _⟩ := hv
  rw [toI_length, hlp] at HV ⊢
  clear hp hlp hn
  go_enter Try.func31, Try.ntmps31
  go_wp2_with fail
  have HT0 : Hid (TwoC ((w.alloc (.cells #[.string ⟨#[]⟩, .int .i64 0] 47)).alloc (.cells #[.string ⟨#[]⟩, .int .i64 0] 47)) (w.heap.size + 1) ⟨#[]⟩ 0) := Lib.hid (heap_alloc2_new w _ _)
  have HX0 : Hid (((w.alloc (.cells #[.string ⟨#[]⟩, .int .i64 0] 47)).alloc (.cells #[.string ⟨#[]⟩, .int .i64 0] 47)).heap[w.heap.size]? = some (.cells #[.string ⟨#[]⟩, .int .i64 0] 47 (0, 0))) := Lib.hid (heap_alloc2_old w _ _)
  have HB0 : Hid (Below w.heap.size w ((w.alloc (.cells #[.string ⟨#[]⟩, .int .i64 0] 47)).alloc (.cells #[.string ⟨#[]⟩, .int .i64 0] 47))) := Lib.hid (((Below.refl w.heap.size w).alloc (Nat.le_refl _) _).alloc (by simp) _)
  generalize (w.alloc (.cells #[.string ⟨#[]⟩, .int .i64 0] 47)).alloc (.cells #[.string ⟨#[]⟩, .int .i64 0] 47) = w0 at *
  obtain ⟨x4, hx4⟩ : ∃ x4, w.heap.size = x4 := ⟨_, rfl⟩
  obtain ⟨o, ho⟩ : ∃ o, w.heap.size + 1 = o := ⟨_, rfl⟩
  have HXO : Hid (x4 < o ∧ w.heap.size = x4 ∧ o = x4 + 1) := Lib.hid (by omega)
  rw [ho] at HT0 ⊢
  rw [hx4] at HX0 HB0 ⊢
  clear hx4 ho
  go_wp2_with fail
  go_loopw [12] (fun vk wr => ∃ (k : Nat) (L : ByteArray) (og : Nat), vk = .int .i64 (k : Int) ∧ k ≤ n ∧ TwoC wr o L og ∧ L = ⟨(lastN s.data.toList P k).toArray⟩ ∧ og = orgN P k ∧ wr.heap[x4]? = some (.cells #[.string ⟨#[]⟩, .int .i64 0] 47 (0, 0)) ∧ Below x4 w wr) (fun vk _ => n - (intOf vk).toNat)
  case atStart => exact ⟨0, _, _, rfl, Nat.zero_le _, HT0.out, rfl, rfl, HX0.out, HB0.out⟩
  case round =>
    clear HT0 HX0 HB0
    obtain ⟨k, L, og, rfl, hk, hT, hL, hog, hX, hB⟩ := hrel
    have HT := Lib.hid hT
    have HL := Lib.hid hL
    have HOG := Lib.hid hog
    have HX := Lib.hid hX
    have HB := Lib.hid hB
    clear hT hL hog hX hB
    by_cases hkn : k < n
    · have hki : (k : Int) < (n : Int) := by omega
      obtain ⟨bb, off, cp, hvv, hc⟩ := (HV.out.below (by have := HB.out; rw [← HXO.out.2.1] at this; exact this)).cell (k := k) (by rw [toI_length, HLP.out]; exact hkn)
      rw [toI_getD] at hc
      simp only [Value.slice.injEq] at hvv
      obtain ⟨rfl, hxx, rfl⟩ := hvv
      clear hxx
      obtain ⟨p, hpE⟩ : ∃ p, P.getD k 0 = p := ⟨_, rfl⟩
      rw [hpE] at hc
      have HPE := Lib.hid hpE
      have hpn : p < n := by
        rw [← hpE, List.getD_eq_getElem?_getD, List.getElem?_eq_getElem (by rw [HLP.out]; exact hkn)]
        exact HP.out _ (List.getElem_mem _)
      clear hpE
      have HR := Lib.hid (fun W => HROT.out p W hpn)
      have hlast := rot_last s n p HN.out hpn
      obtain ⟨rr, hrr⟩ : ∃ rr, rotT s p = rr := ⟨_, rfl⟩
      have hrs : rr.size = n := by rw [← hrr, rotT_size s p (by rw [HN.out]; omega), HN.out]
      obtain ⟨y, hy⟩ : ∃ y : ByteArray, (⟨#[lastB s.data.toList p]⟩ : ByteArray) = y := ⟨_, rfl⟩
      rw [hrr, hy] at hlast
      rw [hrr] at HR
      have hys : y.size = 1 := by rw [← hy]; rfl
      have hLs : L.size ≤ 1024 := by rw [HL.out, text_size, lastN_len (by rw [HLP.out]; exact hk)]; omega
      have HLY : Hid (L ++ y = ⟨(lastN s.data.toList P (k + 1)).toArray⟩) := Lib.hid (by
        rw [lastN_next (by rw [HLP.out]; exact hkn), HPE.out, HL.out, ← hy]
        exact text_append _ [_])
      obtain ⟨n1, hn1⟩ : ∃ n1, n - 1 = n1 := ⟨_, rfl⟩
      have hn1i : (n : Int) - 1 = (n1 : Int) := by omega
      have hn1w : IntKind.i64.wrap (n1 : Int) = (n1 : Int) := IntWalk.i64_in _ (by omega)
      have hn1n : (n1 : Int) ≤ (n : Int) := by omega
      have hrsi : (rr.size : Int) = (n : Int) := by omega
      rw [hn1] at hlast
      have hlast2 : rr.extract n1 rr.size = y := by rw [hrs]; exact hlast
      clear hrr hy hn1
      go_wp2_with fail
      refine (HR.out _).mono ?_
      rintro e w2 ⟨rfl, hb2⟩
      have HT2 : Hid (TwoC w2 o L og) := Lib.hid ((hb2.block o (Array.getElem?_eq_some_iff.1 HT.out).1).trans HT.out)
      have HX2 : Hid (w2.heap[x4]? = some (.cells #[.string ⟨#[]⟩, .int .i64 0] 47 (0, 0))) := Lib.hid ((hb2.block x4 (Array.getElem?_eq_some_iff.1 HX.out).1).trans HX.out)
      have HB2 : Hid (Below x4 w w2) := Lib.hid (HB.out.trans (hb2.mono (by have := HB.out.size; have := HXO.out; omega)))
      obtain ⟨c0, c1, f0, f1⟩ := HT2.out.cells
      clear hb2 hlast2
      obtain ⟨Ly, hLy⟩ : ∃ Ly, L ++ y = Ly := ⟨_, rfl⟩
      have HLY2 : Hid (Ly = ⟨(lastN s.data.toList P (k + 1)).toArray⟩) := Lib.hid (by rw [← hLy]; exact HLY.out)
      have HT3 : Hid (TwoC ((w2.drewN 1).setCell ⟨o, 0, none⟩ (.string Ly)) o Ly og) := Lib.hid (TwoC.set0 (w := w2.drewN 1) HT2.out Ly)
      have HX3 : Hid (((w2.drewN 1).setCell ⟨o, 0, none⟩ (.string Ly)).heap[x4]? = some (.cells #[.string ⟨#[]⟩, .int .i64 0] 47 (0, 0))) := Lib.hid ((heap_setCell_other (w2.drewN 1) ⟨o, 0, none⟩ x4 _ (by have := HXO.out; show x4 ≠ o; omega)).trans HX2.out)
      have HB3 : Hid (Below x4 w ((w2.drewN 1).setCell ⟨o, 0, none⟩ (.string Ly))) := Lib.hid ((HB2.out.trans (belowB_drewN _ _ 1)).setCell (p := ⟨o, 0, none⟩) (by have := HXO.out; show x4 ≤ o; omega) _)
      by_cases hp0 : p = 0
      · have hp0i : ((p : Int) == 0) = true := by rw [beq_iff_eq]; omega
        have HOG2 : Hid (k = orgN P (k + 1)) := Lib.hid (by
          show k = (if P.getD k 0 = 0 then k else orgN P k)
          rw [HPE.out, if_pos hp0])
        clear hp0
        go_wp2_with fail
        go_still_tail 7, (by kernel_rfl)
        change wpList _ _ _ _ _ (w2.drewN 1)
        have HT4 : Hid (TwoC (((w2.drewN 1).setCell ⟨o, 0, none⟩ (.string Ly)).setCell ⟨o, 1, none⟩ (.int .i64 (k : Int))) o Ly k) := Lib.hid (HT3.out.set1 k)
        have HX4 : Hid ((((w2.drewN 1).setCell ⟨o, 0, none⟩ (.string Ly)).setCell ⟨o, 1, none⟩ (.int .i64 (k : Int))).heap[x4]? = some (.cells #[.string ⟨#[]⟩, .int .i64 0] 47 (0, 0))) := Lib.hid ((heap_setCell_other _ ⟨o, 1, none⟩ x4 _ (by have := HXO.out; show x4 ≠ o; omega)).trans HX3.out)
        have HB4 : Hid (Below x4 w (((w2.drewN 1).setCell ⟨o, 0, none⟩ (.string Ly)).setCell ⟨o, 1, none⟩ (.int .i64 (k : Int)))) := Lib.hid (HB3.out.setCell (p := ⟨o, 1, none⟩) (by have := HXO.out; show x4 ≤ o; omega) _)
        go_wp2_with fail
        go_roundw
        case rel => exact ⟨k + 1, _, _, by go_num, by omega, HT4.out, HLY2.out, HOG2.out, HX4.out, HB4.out⟩
        case measure => simp [intOf]; omega
      · have hp0i : ((p : Int) == 0) = false := by rw [beq_eq_false_iff_ne]; omega
        have HOG2 : Hid (og = orgN P (k + 1)) := Lib.hid (by
          show og = (if P.getD k 0 = 0 then k else orgN P k)
          rw [HPE.out, if_neg hp0]
          exact HOG.out)
        clear hp0
        go_wp2_with fail
        go_still_tail 7, (by kernel_rfl)
        change wpList _ _ _ _ _ (w2.drewN 1)
        go_wp2_with fail
        go_roundw
        case rel => exact ⟨k + 1, _, _, by go_num, by omega, HT3.out, HLY2.out, HOG2.out, HX3.out, HB3.out⟩
        case measure => simp [intOf]; omega
    · have hki : ¬ (k : Int) < (n : Int) := by omega
      have hke : k = n := by omega
      have hu := Try.underlying47
      have hi := tinfo
      have hgo := HT.out
      unfold TwoC at hgo
      have hg4 := HX.out
      have HBF : Hid (Below x4 w (wr.setRow x4 #[.string L, .int .i64 (og : Int)])) := Lib.hid (below_setRow HB.out (Nat.le_refl _) _)
      have HXW : Hid (x4 = w.heap.size) := Lib.hid HXO.out.2.1.symm
      go_wp2_with (first
        | (refine wpList_load_row rfl 47 _ rfl o rfl 47 #[.string L, .int .i64 (og : Int)] (0, 0) _ hgo hu rfl hi ?_)
        | (refine wpList_store_row rfl 47 _ _ rfl x4 #[.string L, .int .i64 (og : Int)] rfl rfl 47 _ hg4 hi rfl (turned_one _ _) ?_))
      refine bodyPost_ret (v := .agg #[.string L, .int .i64 (og : Int)]) (results_cell_row rfl _ _ x4 47 _ (0, 0) _ rfl (setRow_heap _ _ _ _ _ _ hg4) hu rfl hi) rfl ?_
      exact ⟨by rw [HL.out, HOG.out, hke], by rw [← HXW.out]; exact HBF.out⟩
set_option maxRecDepth 100000 in
set_option maxHeartbeats 4000000 in
theorem rof_any (s : ByteArray) (n : Nat) (w : World) (hn : s.size = n) (h0 : 0 < n) (hs : n ≤ 1024) : Calls Try.prog 33 #[.string s] w fun e w' => (∃ P, IsSorted s.data.toList P ∧ e = .returned (.agg #[.string ⟨(lastN s.data.toList P n).toArray⟩, .int .i64 (orgN P n : Int)])) ∧ Below w.heap.size w w' := by
  have HSO := Lib.hid (fun W => rsorted_any s W (by omega))
  have hl : s.data.toList.length = n := (txt_len s).trans hn
  have hps := sortP_is s.data.toList
  rw [hl] at hps
  rw [hn] at HSO
  obtain ⟨P, hP⟩ : ∃ P, sortP s.data.toList n = P := ⟨_, rfl⟩
  rw [hP] at HSO hps
  have hlp : P.length = n := by rw [hps.1.length_eq, List.length_range, hl]
  have HFR := Lib.hid (fun v W (hv : IsInts W v (toI P)) => rfrom_any s n P v W hn h0 hs (fun p hp => by have := List.mem_range.1 (hps.1.mem_iff.1 hp); omega) hlp hv)
  have HPS := Lib.hid hps
  obtain ⟨L, hL⟩ : ∃ L : ByteArray, (⟨(lastN s.data.toList P n).toArray⟩ : ByteArray) = L := ⟨_, rfl⟩
  obtain ⟨og, hog⟩ : ∃ og, orgN P n = og := ⟨_, rfl⟩
  rw [hL, hog] at HFR
  have HL := Lib.hid (And.intro hL hog)
  have hu := Try.underlying47
  have hi := tinfo
  have HB0 : Hid (Below w.heap.size w (w.alloc (.cells #[.string ⟨#[]⟩, .int .i64 0] 47))) := Lib.hid ((Below.refl _ _).alloc (Nat.le_refl _) _)
  have HG0 : Hid ((w.alloc (.cells #[.string ⟨#[]⟩, .int .i64 0] 47)).heap[w.heap.size]? = some (.cells #[.string ⟨#[]⟩, .int .i64 0] 47 (0, 0))) := Lib.hid (heap_alloc_new w _)
  clear hl hps hP hlp hn hL hog
  go_enter Try.func33, Try.ntmps33
  go_wp2_with fail
  refine (HSO.out _).mono ?_
  rintro e w2 ⟨v, rfl, hO, hb2⟩
  have HI2 := Lib.hid hO.ints
  have HB2 := Lib.hid (HB0.out.trans (hb2.mono HB0.out.size))
  have HG2 : Hid (w2.heap[w.heap.size]? = some (.cells #[.string ⟨#[]⟩, .int .i64 0] 47 (0, 0))) := Lib.hid ((hb2.block _ (by simp)).trans HG0.out)
  clear hO hb2
  go_wp2_with fail
  refine (HFR.out v w2 HI2.out).mono ?_
  rintro e w3 ⟨rfl, hb3⟩
  have HB3 := Lib.hid (HB2.out.trans (hb3.mono HB2.out.size))
  have hg3 : w3.heap[w.heap.size]? = some (.cells #[.string ⟨#[]⟩, .int .i64 0] 47 (0, 0)) := (hb3.block _ (Array.getElem?_eq_some_iff.1 HG2.out).1).trans HG2.out
  have HBF : Hid (Below w.heap.size w (w3.setRow w.heap.size #[.string L, .int .i64 (og : Int)])) := Lib.hid (below_setRow HB3.out (Nat.le_refl _) _)
  clear hb3
  go_wp2_with (refine wpList_store_row rfl 47 _ _ rfl w.heap.size #[.string L, .int .i64 (og : Int)] rfl rfl 47 _ hg3 hi rfl (turned_one _ _) ?_)
  refine bodyPost_ret (v := .agg #[.string L, .int .i64 (og : Int)]) (results_cell_row rfl _ _ w.heap.size 47 _ (0, 0) _ rfl (setRow_heap _ _ _ _ _ _ hg3) hu rfl hi) rfl ?_
  exact ⟨⟨P, HPS.out, by rw [HL.out.1, HL.out.2]⟩, HBF.out⟩
set_option maxHeartbeats 2000000 in
theorem rsteps17_any (s : ByteArray) (w : World) (hs : s.size ≤ 1024) : Calls Try.prog 35 #[.string s] w fun e w' => (∃ R : Nat, e = .returned (.int .i64 ((R + s.size : Nat) : Int)) ∧ StepsOf s.data.toList R) ∧ Below w.heap.size w w' := by
  have HST := Lib.hid (rsteps_any s w hs)
  have hl := txt_len s
  go_enter Try.func35, Try.ntmps35
  go_wp2_with fail
  refine HST.out.mono ?_
  rintro e w2 ⟨⟨R, rfl, hR⟩, hb⟩
  have hRb := (hR.most (by rw [hl]; exact hs)).2
  have HR := Lib.hid hR
  have HB := Lib.hid hb
  obtain ⟨q, hq⟩ : ∃ q, R + s.size = q := ⟨_, rfl⟩
  have hqi : (R : Int) + (s.size : Int) = (q : Int) := by omega
  have hqw : IntKind.i64.wrap (q : Int) = (q : Int) := IntWalk.i64_in _ (by omega)
  have HQ := Lib.hid hq
  clear hR hb hl hq
  go_wp2_with fail
  go_ret
  exact ⟨⟨R, by rw [HQ.out]; rfl, HR.out⟩, HB.out⟩
end Go.Proofs.Ytfedhppcmmponaa

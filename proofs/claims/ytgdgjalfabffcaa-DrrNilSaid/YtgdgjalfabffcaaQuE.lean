/-
  LAYER 29 (package queue): New, Push, Pop, Remove, Rotate.
-/
import Derived.Test.YtgdgjalfabffcaaQuD
namespace Go.Proofs.Ytgdgjalfabffcaa
open Go.RowKit
set_option linter.unusedVariables false
set_option linter.unusedSimpArgs false
theorem touch_undrew {S : Nat → Prop} {w w1 : World} {m : Nat} (h : Touch S (w.drewN m) w1) : Touch S w w1 := ⟨h.os, h.tape, h.output, h.size, h.block⟩
theorem touch_alloc_out {S : Nat → Prop} {w w1 : World} {o : Obj} (h : Touch S (w.alloc o) w1) : Touch S w w1 :=
  ⟨h.os, h.tape, h.output, by have := h.size; simp at this; omega, fun k hk hs => (h.block k (by simp; omega) hs).trans (Below.heap_alloc w o k hk)⟩
theorem touch_grown {w w1 : World} {v : Value} (hg : w.grownBy w1 v.ownBlock) : Touch (fun k => v.ownBlock = some k) w w1 :=
  ⟨hg.os, hg.tape, hg.output, hg.size, fun k hk hs => hg.block k hk (fun e => hs e.symm)⟩
def pushE (zs : List Int) (lim n : Int) : Int := if n ∈ zs then 8 else if (zs.length : Int) = lim then 5 else 0
def pushL (zs : List Int) (lim n : Int) : List Int := if n ∈ zs then zs else if (zs.length : Int) = lim then zs else zs ++ [n]
theorem without_none {zs : List Int} {n : Int} (h : n ∉ zs) : DrrM.without zs n = zs := by
  refine List.filter_eq_self.2 fun a ha => ?_
  rw [bne_iff_ne]
  exact fun e => h (e ▸ ha)
theorem push_q {ops : Array Oper} {rest : List Oper} {o : Oper} {a : Act} {Q : Exit → Act → World → Prop} (W : World) (hgd : o.guard = none) (s x : Operand)
    (ho : o.op = .call { callee := .builtin .append, args := #[s, x], argTypes := #[28, 28] }) (hty : o.type = 28)
    (B : Nat) (v : Value) (zs : List Int) (c : Int) (h : QRow W B v zs) (hs : a.eval s = v) (hx : a.eval x = .slice (some ⟨W.heap.size, 0, none⟩) 1 1)
    (hlen : zs.length + 1 ≤ 17592186044416) (hB : B ≤ W.heap.size)
    (hk : ∀ v' w', QRow w' B v' (zs ++ [c]) → Touch (fun k => v.ownBlock = some k) W w' → (∀ k, v'.ownBlock = some k → v.ownBlock = some k ∨ W.heap.size ≤ k) → wpList Try.prog ops Q rest (a.put o.dst v') w') :
    wpList Try.prog ops Q (o :: rest) a (W.alloc (.cells #[.int .i64 c] 3)) := by
  have h2 : QRow (W.alloc (.cells #[.int .i64 c] 3)) B v zs := h.same fun k hk => Below.heap_alloc W _ k (h.lt k hk).2
  obtain ⟨v', w', hr, hq, hg, ho2⟩ := run_push_q h2 ⟨W.heap.size, 0, none⟩ 1 c (by rw [cell_of_row _ _ 0 _ _ _ (heap_alloc_new W _)]; rfl) rfl hlen (by simp; omega)
  refine Lib.wpList_append_run _ hgd s x 28 28 ho _ _ hs hx v' w' (by rw [hty]; exact hr) ?_
  exact hk v' w' hq (touch_alloc_out (touch_grown hg)) (fun k hk => (ho2 k hk).imp id (fun h => by simp at h; omega))
set_option maxHeartbeats 1000000 in
theorem qnew_any (lim : Int) (w : World) (h1 : 1 ≤ lim) (h2 : lim ≤ 1099511627776) : Calls Try.prog 12 #[.int .i64 lim] w fun e w' => e = .returned (.tuple #[.pointer (some ⟨w.heap.size, 0, none⟩), .int .i64 0]) ∧ IsQ w' w.heap.size w.heap.size lim (.slice none 0 0) [] ∧ Below w.heap.size w w' := by
  have HE : Hid (IsQ (w.alloc (.cells #[.int .i64 lim, .slice none 0 0] 71)) w.heap.size w.heap.size lim (.slice none 0 0) [] ∧ Below w.heap.size w (w.alloc (.cells #[.int .i64 lim, .slice none 0 0] 71))) := Lib.hid
    ⟨⟨heap_alloc_new w _, QRow.nil _ _, by simp [Value.ownBlock], Nat.le_refl _, List.nodup_nil, h1, by simp; omega, h2⟩, (Below.refl _ _).alloc (Nat.le_refl _) _⟩
  have k1 : ¬ lim < 1 := by omega
  have k2 : ¬ lim > 1099511627776 := by omega
  go_enter Try.func12, Try.ntmps12
  go_wp2_with fail
  go_ret2
  exact ⟨rfl, HE.out⟩
set_option maxHeartbeats 1000000 in
theorem qnew_bad (lim : Int) (w : World) (h : ¬ (1 ≤ lim ∧ lim ≤ 1099511627776)) : Calls Try.prog 12 #[.int .i64 lim] w fun e w' => e = .returned (.tuple #[.pointer none, .int .i64 1]) ∧ w' = w := by
  by_cases k1 : lim < 1
  · clear h
    go_enter Try.func12, Try.ntmps12
    go_wp2_with fail
    go_ret2
    exact ⟨rfl, rfl⟩
  · have k2 : lim > 1099511627776 := by omega
    clear h
    go_enter Try.func12, Try.ntmps12
    go_wp2_with fail
    go_ret2
    exact ⟨rfl, rfl⟩
theorem DrrM.place_get : ∀ {zs : List Int} {k : Nat} {n : Int}, DrrM.place zs n = (k : Int) → zs[k]? = some n
  | [], k, n, h => by simp [DrrM.place] at h
  | x :: zs, k, n, h => by
    unfold DrrM.place at h
    split at h
    · rename_i e
      obtain rfl : k = 0 := by omega
      simp [e]
    · split at h
      · omega
      · rename_i h1 h2
        obtain ⟨j, rfl⟩ : ∃ j, k = j + 1 := ⟨k - 1, by omega⟩
        have := DrrM.place_get (zs := zs) (k := j) (n := n) (by omega)
        simpa using this
section
variable {w w' : World} {B b : Nat} {lim : Int} {v : Value} {zs : List Int}
/-- Behind 'append' of one number: the row is stored. -/
theorem push_tail {W w2 : World} {v2 : Value} {zs' : List Int} {j : Nat} (h : IsQ w B b lim v zs) (hW : w.drewN j = W) (hq : QRow w2 B v2 zs') (ht : Touch (fun k => v.ownBlock = some k) W w2) (ho : ∀ k, v2.ownBlock = some k → v.ownBlock = some k ∨ W.heap.size ≤ k)
    (hnd : zs'.Nodup) (hl : (zs'.length : Int) ≤ lim) : QStep w (w2.setCell ⟨b, 1, none⟩ v2) B b lim v zs' ∧ w2.cell? ⟨b, 1, none⟩ = some v ∧ w2.frozen? ⟨b, 1, none⟩ = false := by
  subst hW
  have ht' := touch_undrew ht
  have hb : w2.heap[b]? = w.heap[b]? := ht'.block b (h.lt b (Or.inl rfl)).2 h.ne
  exact ⟨QStep.store h (ht'.mono fun i hi => Or.inr hi) hb hq ho hnd hl, (World.cell?_of_block (a := ⟨b, 1, none⟩) hb).trans h.cells.2, (World.frozen?_of_block (a := ⟨b, 1, none⟩) hb).trans (h.frozen 1)⟩
theorem cut_tail {w2 : World} {g off m cap : Nat} {o2 m2 c2 : Nat} {zs' : List Int} (h : IsQ w B b lim (.slice (some ⟨g, off, none⟩) m cap) zs) (hq : QRow w2 B (.slice (some ⟨g, o2, none⟩) m2 c2) zs') (ht : Touch (· = g) w w2)
    (hnd : zs'.Nodup) (hl : (zs'.length : Int) ≤ lim) : QStep w (w2.setCell ⟨b, 1, none⟩ (.slice (some ⟨g, o2, none⟩) m2 c2)) B b lim (.slice (some ⟨g, off, none⟩) m cap) zs' ∧ w2.cell? ⟨b, 1, none⟩ = some (.slice (some ⟨g, off, none⟩) m cap) ∧ w2.frozen? ⟨b, 1, none⟩ = false :=
  push_tail (j := 0) h rfl hq ⟨ht.os, ht.tape, ht.output, ht.size, fun k hk hs => ht.block k hk (fun e => hs (by rw [e]; rfl))⟩ (fun k hk => Or.inl hk) hnd hl
theorem rot_tail {w2 w3 : World} {g off m cap : Nat} {o2 m2 c2 : Nat} {v3 : Value} {zs' : List Int} (h : IsQ w B b lim (.slice (some ⟨g, off, none⟩) m cap) zs) (ht : Touch (· = g) w w2) (hq : QRow w3 B v3 zs')
    (ht3 : Touch (fun k => (Value.slice (some ⟨g, o2, none⟩) m2 c2).ownBlock = some k) w2 w3) (ho : ∀ k, v3.ownBlock = some k → (Value.slice (some ⟨g, o2, none⟩) m2 c2).ownBlock = some k ∨ w2.heap.size ≤ k)
    (hnd : zs'.Nodup) (hl : (zs'.length : Int) ≤ lim) : QStep w (w3.setCell ⟨b, 1, none⟩ v3) B b lim (.slice (some ⟨g, off, none⟩) m cap) zs' ∧ w3.cell? ⟨b, 1, none⟩ = some (.slice (some ⟨g, off, none⟩) m cap) ∧ w3.frozen? ⟨b, 1, none⟩ = false := by
  have ht1 : Touch (fun k => (Value.slice (some ⟨g, off, none⟩) m cap).ownBlock = some k) w w2 := ⟨ht.os, ht.tape, ht.output, ht.size, fun k hk hs => ht.block k hk (fun e => hs (by rw [e]; rfl))⟩
  refine push_tail (j := 0) h rfl hq (ht1.trans ht3 fun i hi => Or.inl hi) (fun k hk => (ho k hk).imp id fun h2 => ?_) hnd hl
  have := ht.size
  show w.heap.size ≤ k
  omega
set_option maxHeartbeats 2000000 in
theorem qpush_any (n : Int) (w : World) (h : IsQ w B b lim v zs) : Calls Try.prog 20 #[.pointer (some ⟨b, 0, none⟩), .int .i64 n] w fun e w' => e = .returned (.int .i64 (pushE zs lim n)) ∧ QStep w w' B b lim v (pushL zs lim n) := by
  have HM := Lib.hid (qmade_any w h)
  have HH := Lib.hid (qhas_any n w h)
  by_cases hm : n ∈ zs
  · have HR : Hid (QStep w w B b lim v zs) := Lib.hid (QStep.refl h)
    unfold pushE pushL
    rw [if_pos hm, if_pos hm]
    rw [decide_eq_true hm] at HH
    clear hm h
    go_enter Try.func20, Try.ntmps20
    go_wp2_with fail
    refine HM.out.mono ?_
    rintro e w1 ⟨rfl, rfl⟩
    go_wp2_with fail
    refine HH.out.mono ?_
    rintro e w1 ⟨rfl, rfl⟩
    go_wp2_with fail
    go_ret
    exact ⟨rfl, HR.out⟩
  · rw [decide_eq_false hm] at HH
    have HL := Lib.hid (fun j => qlen_any (w.drewN j) (h.same (fun _ _ => rfl)))
    have c0 := h.cells.1
    by_cases hf : (zs.length : Int) = lim
    · have HR : Hid (∀ j, QStep w (w.drewN j) B b lim v zs) := Lib.hid (fun j => QStep.drew h j)
      unfold pushE pushL
      rw [if_neg hm, if_neg hm, if_pos hf, if_pos hf]
      have hb : ((zs.length : Int) == lim) = true := by rw [beq_iff_eq]; exact hf
      clear hm h hf
      generalize (zs.length : Int) = L at *
      go_enter Try.func20, Try.ntmps20
      go_wp2_with fail
      refine HM.out.mono ?_
      rintro e w1 ⟨rfl, rfl⟩
      go_wp2_with fail
      refine HH.out.mono ?_
      rintro e w1 ⟨rfl, rfl⟩
      go_wp2_with fail
      go_quiet (refine (Calls.quiet_of_same (HL.out _)))
      go_wp2_with fail
      go_ret
      exact ⟨rfl, HR.out _⟩
    · have hb : ((zs.length : Int) == lim) = false := by rw [beq_eq_false_iff_ne]; exact hf
      have hll := h.len
      have hlm := h.limL
      have HQ := Lib.hid (fun j => (show IsQ (w.drewN j) B b lim v zs from h.same (fun _ _ => rfl)))
      have HB := Lib.hid ((h.lt b (Or.inl rfl)).2)
      have HBB := Lib.hid h.base
      have HND : Hid ((zs ++ [n]).Nodup) := Lib.hid (DrrM.with_nodup h.nd hm)
      have HLL : Hid (((zs ++ [n]).length : Int) ≤ lim) := Lib.hid (by rw [List.length_append]; simp; omega)
      have HH0 := Lib.hid h
      unfold pushE pushL
      rw [if_neg hm, if_neg hm, if_neg hf, if_neg hf]
      obtain ⟨a0, cap0, hv, _⟩ := h.row.shape
      have c1 := h.cells.2
      clear hm h hf
      obtain ⟨M, hM⟩ : ∃ M, zs.length = M := ⟨_, rfl⟩
      have HMM := Lib.hid hM
      rw [hM] at hb HL hv hll hlm
      clear hM
      subst hv
      go_enter Try.func20, Try.ntmps20
      go_wp2_with fail
      refine HM.out.mono ?_
      rintro e w1 ⟨rfl, rfl⟩
      go_wp2_with fail
      refine HH.out.mono ?_
      rintro e w1 ⟨rfl, rfl⟩
      go_wp2_with fail
      go_quiet (refine (Calls.quiet_of_same (HL.out _)))
      rename_i nq
      have c1' : (w1.drewN nq).cell? ⟨b, 1, none⟩ = some (.slice a0 M cap0) := c1
      obtain ⟨W, hW⟩ : ∃ W, w1.drewN nq = W := ⟨_, rfl⟩
      have HW := Lib.hid hW
      have HQ1 := Lib.hid (HQ.out nq)
      rw [hW] at c1' HQ1
      simp only [hW]
      clear HL HQ hW
      go_wp2_with (at_builtin; go_loud (refine push_q W rfl _ _ rfl rfl B _ zs n HQ1.out.row rfl rfl (by rw [HMM.out]; omega) (by have := HQ1.out.lt b (Or.inl rfl); have := HBB.out; omega) ?_))
      intro v2 w2 hq2 ht2 ho2
      obtain ⟨HS, c2, f2⟩ := push_tail HH0.out HW.out hq2 ht2 ho2 HND.out HLL.out
      have HS2 := Lib.hid HS
      obtain ⟨a2, cap2, hv2, _⟩ := hq2.shape
      clear HS hq2 ht2 ho2
      obtain ⟨M2, hM2⟩ : ∃ M2, (zs ++ [n]).length = M2 := ⟨_, rfl⟩
      rw [hM2] at hv2
      clear hM2
      subst hv2
      go_wp2_with fail
      go_ret
      exact ⟨rfl, HS2.out⟩
/-- What Pop leaves. -/
def popL : List Int → List Int
  | [] => []
  | _ :: l => l
set_option maxHeartbeats 2000000 in
theorem qpop_any (w : World) (h : IsQ w B b lim v zs) : Calls Try.prog 21 #[.pointer (some ⟨b, 0, none⟩)] w fun e w' => e = .returned (.tuple #[.int .i64 (frontN zs), .int .i64 (frontE zs)]) ∧ QStep w w' B b lim v (popL zs) := by
  have HF := Lib.hid (qfront_any w h)
  cases zs with
  | nil =>
    have HR : Hid (QStep w w B b lim v []) := Lib.hid (QStep.refl h)
    clear h
    go_enter Try.func21, Try.ntmps21
    go_wp2_with fail
    refine HF.out.mono ?_
    rintro e w1 ⟨rfl, rfl⟩
    go_wp2_with fail
    go_ret2
    exact ⟨rfl, HR.out⟩
  | cons x zs =>
    obtain ⟨g, off, cap, hv⟩ := h.row.addr (by simp)
    subst hv
    have HC := Lib.hid (cut0_any w B x zs g off _ cap h.row)
    have c1 := h.cells.2
    have HH0 := Lib.hid h
    have HND : Hid (zs.Nodup) := Lib.hid (List.nodup_cons.1 h.nd).2
    have HLL : Hid ((zs.length : Int) ≤ lim) := Lib.hid (by have := h.limL; simp at this; omega)
    clear h
    obtain ⟨M, hM⟩ : ∃ M, (x :: zs).length = M := ⟨_, rfl⟩
    rw [hM] at HC c1 HH0
    rw [hM]
    clear hM
    go_enter Try.func21, Try.ntmps21
    go_wp2_with fail
    refine HF.out.mono ?_
    rintro e w1 ⟨rfl, rfl⟩
    go_wp2_with fail
    refine HC.out.mono ?_
    rintro e w2 ⟨o2, m2, c2, rfl, hq2, ht2⟩
    obtain ⟨HS, c2, f2⟩ := cut_tail HH0.out hq2 ht2 HND.out HLL.out
    have HS2 := Lib.hid HS
    clear HS hq2 ht2
    go_wp2_with fail
    go_ret2
    exact ⟨rfl, HS2.out⟩
set_option maxHeartbeats 1000000 in
theorem qpop_nil (w : World) : Calls Try.prog 21 #[.pointer none] w fun e w' => e = .returned (.tuple #[.int .i64 0, .int .i64 7]) ∧ w' = w := by
  have HF := Lib.hid (qfront_nil w)
  go_enter Try.func21, Try.ntmps21
  go_wp2_with fail
  refine HF.out.mono ?_
  rintro e w1 ⟨rfl, rfl⟩
  go_wp2_with fail
  go_ret2
  exact ⟨rfl, rfl⟩
set_option maxHeartbeats 1000000 in
theorem qpush_nil (n : Int) (w : World) : Calls Try.prog 20 #[.pointer none, .int .i64 n] w fun e w' => e = .returned (.int .i64 7) ∧ w' = w := by
  have HM := Lib.hid (qmade_nil w)
  go_enter Try.func20, Try.ntmps20
  go_wp2_with fail
  refine HM.out.mono ?_
  rintro e w1 ⟨rfl, rfl⟩
  go_wp2_with fail
  go_ret
  exact ⟨rfl, rfl⟩
set_option maxHeartbeats 1000000 in
theorem qremove_nil (n : Int) (w : World) : Calls Try.prog 24 #[.pointer none, .int .i64 n] w fun e w' => e = .returned (.int .i64 7) ∧ w' = w := by
  have HM := Lib.hid (qmade_nil w)
  go_enter Try.func24, Try.ntmps24
  go_wp2_with fail
  refine HM.out.mono ?_
  rintro e w1 ⟨rfl, rfl⟩
  go_wp2_with fail
  go_ret
  exact ⟨rfl, rfl⟩
def remE (zs : List Int) (n : Int) : Int := if n ∈ zs then 0 else 6
set_option maxHeartbeats 2000000 in
theorem qremove_any (n : Int) (w : World) (h : IsQ w B b lim v zs) : Calls Try.prog 24 #[.pointer (some ⟨b, 0, none⟩), .int .i64 n] w fun e w' => e = .returned (.int .i64 (remE zs n)) ∧ QStep w w' B b lim v (DrrM.without zs n) := by
  have HM := Lib.hid (qmade_any w h)
  have HI := Lib.hid (index_any v zs n w h.row.ints (by have := h.len; omega))
  have c1 := h.cells.2
  obtain ⟨a0, cap0, hv, _⟩ := h.row.shape
  by_cases hm : n ∈ zs
  · obtain ⟨k, hk⟩ : ∃ k : Nat, DrrM.place zs n = (k : Int) := ⟨(DrrM.place zs n).toNat, by have := (DrrM.place_mem zs n).2 hm; omega⟩
    have hkn : zs[k]? = some n := DrrM.place_get hk
    obtain ⟨g, off, cap, hv⟩ := h.row.addr (List.length_pos_of_mem hm)
    subst hv
    have HC : Hid (Calls Try.prog 45 #[.slice (some ⟨g, off, none⟩) zs.length cap, .int .i64 (k : Int)] w fun e w' => CutP w w' B g n (DrrM.without zs n) e) := Lib.hid (by
      rw [← DrrM.erase_at h.nd hkn]
      by_cases h0 : k = 0
      · subst h0
        cases zs with
        | nil => simp at hkn
        | cons x zs =>
          simp at hkn
          subst hkn
          simpa using cut0_any w B x zs g off _ cap h.row
      · exact cut_any w B zs n g off _ cap k h.row hkn (by omega))
    have HH0 := Lib.hid h
    have HND : Hid ((DrrM.without zs n).Nodup) := Lib.hid (DrrM.without_nodup h.nd n)
    have HLL : Hid (((DrrM.without zs n).length : Int) ≤ lim) := Lib.hid (by have := DrrM.without_length_lt hm; have := h.limL; omega)
    have k0 : ¬ (k : Int) < 0 := by omega
    unfold remE
    rw [if_pos hm]
    rw [hk] at HI
    clear h hkn hm hk
    obtain ⟨M, hM⟩ : ∃ M, zs.length = M := ⟨_, rfl⟩
    rw [hM] at HC c1 HH0 HI
    rw [hM]
    clear hM
    go_enter Try.func24, Try.ntmps24
    go_wp2_with fail
    refine HM.out.mono ?_
    rintro e w1 ⟨rfl, rfl⟩
    go_wp2_with fail
    refine HI.out.mono ?_
    rintro e w1 ⟨rfl, rfl⟩
    go_wp2_with fail
    refine HC.out.mono ?_
    rintro e w2 ⟨o2, m2, c2, rfl, hq2, ht2⟩
    obtain ⟨HS, c2, f2⟩ := cut_tail HH0.out hq2 ht2 HND.out HLL.out
    have HS2 := Lib.hid HS
    clear HS hq2 ht2
    go_wp2_with fail
    go_ret
    exact ⟨rfl, HS2.out⟩
  · have HR : Hid (QStep w w B b lim v (DrrM.without zs n)) := Lib.hid (by rw [without_none hm]; exact QStep.refl h)
    unfold remE
    rw [if_neg hm]
    rw [DrrM.place_none hm] at HI
    clear h hm
    subst hv
    go_enter Try.func24, Try.ntmps24
    go_wp2_with fail
    refine HM.out.mono ?_
    rintro e w1 ⟨rfl, rfl⟩
    go_wp2_with fail
    refine HI.out.mono ?_
    rintro e w1 ⟨rfl, rfl⟩
    go_wp2_with fail
    go_ret
    exact ⟨rfl, HR.out⟩
set_option maxHeartbeats 2000000 in
theorem qrotate_any (w : World) (h : IsQ w B b lim v zs) : Calls Try.prog 23 #[.pointer (some ⟨b, 0, none⟩)] w fun e w' => e = .returned (.tuple #[]) ∧ QStep w w' B b lim v (DrrM.rotated zs) := by
  have HL := Lib.hid (qlen_any w h)
  by_cases hl : zs.length < 2
  · have HR : Hid (QStep w w B b lim v (DrrM.rotated zs)) := Lib.hid (by
      have e : DrrM.rotated zs = zs := by
        match zs, hl with
        | [], _ => rfl
        | [x], _ => rfl
        | x :: y :: l, hl => simp at hl; omega
      rw [e]; exact QStep.refl h)
    have g : (zs.length : Int) < 2 := by omega
    clear h hl
    generalize (zs.length : Int) = L at *
    go_enter Try.func23, Try.ntmps23
    go_wp2_with fail
    refine HL.out.mono ?_
    rintro e w1 ⟨rfl, rfl⟩
    go_wp2_with fail
    refine bodyPost_ret (results_none rfl _ _ _) rfl ?_
    exact ⟨rfl, HR.out⟩
  · cases zs with
    | nil => simp at hl
    | cons x zs =>
      obtain ⟨g, off, cap, hv⟩ := h.row.addr (by simp)
      subst hv
      have HC := Lib.hid (cut0_any w B x zs g off _ cap h.row)
      have c1 := h.cells.2
      have hlen := h.len
      have HH0 := Lib.hid h
      have HND : Hid ((zs ++ [x]).Nodup) := Lib.hid (DrrM.rotated_nodup h.nd)
      have HLL : Hid (((zs ++ [x]).length : Int) ≤ lim) := Lib.hid (by have := h.limL; simp at this ⊢; omega)
      have k2 : ¬ ((x :: zs).length : Int) < 2 := by omega
      have HZ : Hid (zs.length + 1 ≤ 17592186044416) := Lib.hid (by simp at hlen; omega)
      have HBB := Lib.hid h.base
      have HB := Lib.hid ((h.lt b (Or.inl rfl)).2)
      have f1 := h.frozen 1
      clear h hl hlen
      obtain ⟨M, hM⟩ : ∃ M, (x :: zs).length = M := ⟨_, rfl⟩
      rw [hM] at HC c1 HH0 HL k2
      rw [hM]
      clear hM
      go_enter Try.func23, Try.ntmps23
      go_wp2_with fail
      refine HL.out.mono ?_
      rintro e w1 ⟨rfl, rfl⟩
      go_wp2_with fail
      refine HC.out.mono ?_
      rintro e w2 ⟨o2, m2, c2, rfl, hq2, ht2⟩
      have HQ2 := Lib.hid hq2
      have HT2 := Lib.hid ht2
      have HS2 : Hid (w1.heap.size ≤ w2.heap.size) := Lib.hid ht2.size
      clear hq2 ht2
      go_wp2_with (at_builtin; go_loud (refine push_q w2 rfl _ _ rfl rfl B _ zs x HQ2.out rfl rfl HZ.out (by have := HBB.out; have := HB.out; have := HS2.out; omega) ?_))
      intro v3 w3 hq3 ht3 ho3
      obtain ⟨HS, c3, f3⟩ := rot_tail HH0.out HT2.out hq3 ht3 ho3 HND.out HLL.out
      have HS3 := Lib.hid HS
      obtain ⟨a3, cap3, hv3, _⟩ := hq3.shape
      clear HS hq3 ht3 ho3
      obtain ⟨M2, hM2⟩ : ∃ M2, (zs ++ [x]).length = M2 := ⟨_, rfl⟩
      rw [hM2] at hv3
      clear hM2
      subst hv3
      go_wp2_with fail
      refine bodyPost_end (results_none rfl _ _ _) rfl ?_
      exact ⟨rfl, HS3.out⟩
set_option maxHeartbeats 1000000 in
theorem qrotate_nil (w : World) : Calls Try.prog 23 #[.pointer none] w fun e w' => e = .returned (.tuple #[]) ∧ w' = w := by
  have HL := Lib.hid (qlen_nil w)
  go_enter Try.func23, Try.ntmps23
  go_wp2_with fail
  refine HL.out.mono ?_
  rintro e w1 ⟨rfl, rfl⟩
  go_wp2_with fail
  refine bodyPost_ret (results_none rfl _ _ _) rfl ?_
  exact ⟨rfl, rfl⟩
end
end Go.Proofs.Ytgdgjalfabffcaa

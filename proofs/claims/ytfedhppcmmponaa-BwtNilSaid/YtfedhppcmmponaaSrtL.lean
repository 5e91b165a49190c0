/-
  THE WALKS OF LAYER 16's CODE (package sorter): a sorter is made.
-/
import Derived.Test.YtfedhppcmmponaaSrtK
import Derived.BigRegion
namespace Go.Proofs.Ytfedhppcmmponaa
open Go.RowKit BwtM SrtM PkM
set_option linter.unusedVariables false
set_option linter.unusedSimpArgs false
set_option maxRecDepth 100000 in
set_option maxHeartbeats 4000000 in
theorem snew_long (s : ByteArray) (w : World) (hs : 900000 < s.size) (hm : s.size ≤ 1099511627776) : Calls Try.prog 19 #[.string s] w fun e w' => e = .returned (.tuple #[.pointer none, .int .i64 2]) ∧ w' = w := by
  have h1 : (s.size : Int) > 900000 := by omega
  go_enter Try.func19, Try.ntmps19
  go_wp2_with fail
  go_ret2
  exact ⟨rfl, rfl⟩
/-- How many steps there are in all. -/
def StepsOf (T : List UInt8) (R : Nat) : Prop := (T.length < 2 ∧ R = 0) ∨ (2 ≤ T.length ∧ ∃ m, Rem T 0 m ∧ R = each T.length * (m + 1))
theorem StepsOf.one {T : List UInt8} {R R' : Nat} (h : StepsOf T R) (g : StepsOf T R') : R = R' := by
  rcases h with ⟨h1, rfl⟩ | ⟨h1, m, h2, rfl⟩ <;> rcases g with ⟨g1, rfl⟩ | ⟨g1, k, g2, rfl⟩
  · rfl
  · omega
  · omega
  · rw [h2.one g2]
theorem StepsOf.le {T : List UInt8} {R b : Nat} (h : StepsOf T R) (hb : T.length ≤ 2 ^ b) : R ≤ T.length * (4 + 3 * b) * (b + 2) := by
  rcases h with ⟨h1, rfl⟩ | ⟨h1, m, h2, rfl⟩
  · exact Nat.zero_le _
  · obtain ⟨k, hk, hr⟩ := rem_zero T b hb
    rw [h2.one hr]
    exact total_le (by omega) hb hk
def zeroS (n j : Nat) : SS := { ord := List.range j ++ List.replicate (n - j) 0, cls := List.replicate n 0, asd := List.replicate n 0, reach := 0, ps := [], laid := 0, first := 0, second := 0, made := 0, steps := 0 }
theorem zeroS_next {n j : Nat} (h : j < n) : (List.range j ++ List.replicate (n - j) 0).set j j = List.range (j + 1) ++ List.replicate (n - (j + 1)) 0 := by
  rw [List.set_append_right _ _ (by rw [List.length_range]; exact Nat.le_refl _), List.length_range, Nat.sub_self, show n - j = (n - (j + 1)) + 1 by omega, List.replicate_succ, List.set_cons_zero, List.range_succ, List.append_assoc]
  rfl
theorem zero_row (w : World) (g n : Nat) (h : w.heap[g]? = some (.cells (madeCells #[.int .i64 0] n) 3)) : RowI w g (toI (List.replicate n 0)) := by
  unfold RowI
  rw [h]
  congr 2
  apply Array.toList_inj.1
  rw [toList_madeCells_one]
  simp [toI, iv64]
theorem new_is (w : World) (n bo bc ba : Nat) (h1 : w.heap.size ≤ bo ∧ bo ≤ w.heap.size + 2) (h2 : w.heap.size ≤ bc ∧ bc ≤ w.heap.size + 2) (h3 : w.heap.size ≤ ba ∧ ba ≤ w.heap.size + 2) (h4 : bo ≠ bc ∧ bo ≠ ba ∧ bc ≠ ba) :
    IsSo w.heap.size (((((w.alloc (.cells (madeCells #[.int .i64 0] n) 3)).alloc (.cells (madeCells #[.int .i64 0] n) 3)).alloc (.cells (madeCells #[.int .i64 0] n) 3)).alloc (.cells #[.slice (some ⟨bo, 0, none⟩) n n, .slice (some ⟨bc, 0, none⟩) n n, .slice (some ⟨ba, 0, none⟩) n n, .int .i64 0, .nilFunc, .slice none 0 0, .int .i64 0, .int .i64 0, .int .i64 0, .int .i64 0, .int .i64 0] 62)).drew) (w.heap.size + 1 + 1 + 1) bo bc ba .nilFunc (.slice none 0 0) n [] (zeroS n 0) ∧ Below w.heap.size w (((((w.alloc (.cells (madeCells #[.int .i64 0] n) 3)).alloc (.cells (madeCells #[.int .i64 0] n) 3)).alloc (.cells (madeCells #[.int .i64 0] n) 3)).alloc (.cells #[.slice (some ⟨bo, 0, none⟩) n n, .slice (some ⟨bc, 0, none⟩) n n, .slice (some ⟨ba, 0, none⟩) n n, .int .i64 0, .nilFunc, .slice none 0 0, .int .i64 0, .int .i64 0, .int .i64 0, .int .i64 0, .int .i64 0] 62)).drew) := by
  obtain ⟨o1, ho1⟩ : ∃ o1 : Obj, o1 = .cells (madeCells #[.int .i64 0] n) 3 := ⟨_, rfl⟩
  obtain ⟨o2, ho2⟩ : ∃ o2 : Obj, o2 = .cells #[.slice (some ⟨bo, 0, none⟩) n n, .slice (some ⟨bc, 0, none⟩) n n, .slice (some ⟨ba, 0, none⟩) n n, .int .i64 0, .nilFunc, .slice none 0 0, .int .i64 0, .int .i64 0, .int .i64 0, .int .i64 0, .int .i64 0] 62 := ⟨_, rfl⟩
  rw [← ho1, ← ho2]
  have z1 : (w.alloc o1).heap.size = w.heap.size + 1 := by simp
  have z2 : ((w.alloc o1).alloc o1).heap.size = w.heap.size + 1 + 1 := by simp
  have z3 : (((w.alloc o1).alloc o1).alloc o1).heap.size = w.heap.size + 1 + 1 + 1 := by simp
  have z4 : ((((w.alloc o1).alloc o1).alloc o1).alloc o2).drew.heap.size = w.heap.size + 1 + 1 + 1 + 1 := by show ((((w.alloc o1).alloc o1).alloc o1).alloc o2).heap.size = _; simp
  have a1 := heap_alloc_new w o1
  have a2 := heap_alloc_new (w.alloc o1) o1
  have a3 := heap_alloc_new ((w.alloc o1).alloc o1) o1
  have a4 := heap_alloc_new (((w.alloc o1).alloc o1).alloc o1) o2
  rw [z1] at a2
  rw [z2] at a3
  rw [z3] at a4
  have r : ∀ k, w.heap.size ≤ k → k ≤ w.heap.size + 2 → ((((w.alloc o1).alloc o1).alloc o1).alloc o2).drew.heap[k]? = some o1 := by
    intro k hk1 hk2
    show ((((w.alloc o1).alloc o1).alloc o1).alloc o2).heap[k]? = some o1
    rw [alloc_old (by omega)]
    rcases (by omega : k = w.heap.size ∨ k = w.heap.size + 1 ∨ k = w.heap.size + 1 + 1) with e | e | e
    · rw [e, alloc_old (by omega), alloc_old (by omega), a1]
    · rw [e, alloc_old (by omega), a2]
    · rw [e, a3]
  have hB : Below w.heap.size w ((((w.alloc o1).alloc o1).alloc o1).alloc o2).drew := by
    have := ((((Below.refl w.heap.size w).alloc (Nat.le_refl _) o1).alloc (by omega) o1).alloc (by omega) o1).alloc (by omega) o2
    exact ⟨this.os, this.tape, this.output, this.size, this.block⟩
  refine ⟨⟨⟨fun k => ([.slice (some ⟨bo, 0, none⟩) n n, .slice (some ⟨bc, 0, none⟩) n n, .slice (some ⟨ba, 0, none⟩) n n, .int .i64 0, .nilFunc, .slice none 0 0, .int .i64 0, .int .i64 0, .int .i64 0, .int .i64 0, .int .i64 0] : List Value).getD k undef, ?_, ⟨rfl, rfl, rfl, rfl, rfl, rfl, rfl, rfl, rfl, rfl, rfl⟩⟩, ?_, ?_, ?_, ?_, ?_, ?_, OwnP.nil _ _, ⟨by omega, by omega, by omega, h4⟩, fun k hk => (by cases hk), ⟨by omega, h1.1, h2.1, h3.1⟩, fun g hg => (by cases hg)⟩, hB⟩
  · show ((((w.alloc o1).alloc o1).alloc o1).alloc o2).heap[w.heap.size + 1 + 1 + 1]? = _
    rw [a4, ho2]
    rfl
  · show RowI _ bo (toI (List.range 0 ++ List.replicate (n - 0) 0))
    rw [Nat.sub_zero]
    exact zero_row _ _ _ ((r bo h1.1 h1.2).trans (by rw [ho1]))
  · exact zero_row _ _ _ ((r bc h2.1 h2.2).trans (by rw [ho1]))
  · exact zero_row _ _ _ ((r ba h3.1 h3.2).trans (by rw [ho1]))
  · show (List.range 0 ++ List.replicate (n - 0) 0).length = n
    simp
  · show (List.replicate n 0).length = n
    simp
  · show (List.replicate n 0).length = n
    simp
/-- Places are laid in their order. -/
theorem new_fill {B : Nat} {wr : World} {b bo bc ba n j : Nat} (h : IsSo B wr b bo bc ba .nilFunc (.slice none 0 0) n [] (zeroS n j)) (hj : j < n) :
    IsSo B (wr.setCell ⟨bo, j, none⟩ (.int .i64 (j : Int))) b bo bc ba .nilFunc (.slice none 0 0) n [] (zeroS n (j + 1)) ∧ Below B wr (wr.setCell ⟨bo, j, none⟩ (.int .i64 (j : Int))) := by
  have hr := (h.ro.cell (i := j) (by rw [toI_length, h.lo]; exact hj)).2.2 (j : Int)
  have e : (toI (zeroS n j).ord).set j (j : Int) = toI (zeroS n (j + 1)).ord := by
    show (toI (List.range j ++ List.replicate (n - j) 0)).set j (j : Int) = toI (List.range (j + 1) ++ List.replicate (n - (j + 1)) 0)
    rw [← zeroS_next hj]
    unfold toI
    rw [List.map_set]
  rw [e] at hr
  exact ⟨h.inOrd (touch_cell (Touch.refl _ _)) (zeroS n (j + 1)).ord (by show (List.range (j + 1) ++ List.replicate (n - (j + 1)) 0).length = n; rw [List.length_append, List.length_range, List.length_replicate]; omega) hr, (Below.refl B wr).setCell (p := ⟨bo, j, none⟩) h.base.2.1 _⟩
theorem new_ord (n : Nat) : (zeroS n n).ord = List.range n := by
  show List.range n ++ List.replicate (n - n) 0 = _
  rw [Nat.sub_self]
  simp
def NewP (w w' : World) (n : Nat) (T : List UInt8) (e : Ending) : Prop :=
  ∃ b R, e = .returned (.tuple #[.pointer (some ⟨b, 0, none⟩), .int .i64 0]) ∧ SoSt w.heap.size w' b n T [] 0 R ∧ StepsOf T R ∧ Below w.heap.size w w'
theorem new_small {w w' : World} {b bo bc ba n : Nat} {T : List UInt8} (hT : T.length = n) (h : IsSo w.heap.size w' b bo bc ba .nilFunc (.slice none 0 0) n [] (zeroS n n)) (hn : n < 2) (hB : Below w.heap.size w w') : NewP w w' n T (.returned (.tuple #[.pointer (some ⟨b, 0, none⟩), .int .i64 0])) := by
  refine ⟨b, 0, rfl, ⟨bo, bc, ba, _, _, [], _, h, ⟨rfl, Nat.zero_le _, fun g hg => (by cases hg)⟩, Or.inl ⟨rfl, ?_, rfl⟩⟩, Or.inl ⟨by omega, rfl⟩, hB⟩
  rw [new_ord, ← hT]
  refine ⟨List.Perm.refl _, ?_⟩
  rcases (by omega : T.length = 0 ∨ T.length = 1) with e | e
  · rw [e]; exact List.Pairwise.nil
  · rw [e]; exact List.pairwise_singleton _ _
theorem new_big {w w5 w' : World} {b bo bc ba n g : Nat} {s : ByteArray} {vw : Value} (hT : s.size = n) (hn : 2 ≤ n) (hn2 : n ≤ 900000) (ht : Txt w5 g s) (hk : KbSame w5 w' [g])
    (h : IsSo w.heap.size w' b bo bc ba (.func (.func 54) #[] #[.pointer (some ⟨g, 0, none⟩)]) vw n [g] (passSS (zeroS n n) 0 [⟨0, n, false⟩])) (hB : Below w.heap.size w w') : NewP w w' n s.data.toList (.returned (.tuple #[.pointer (some ⟨b, 0, none⟩), .int .i64 0])) := by
  have hl : s.data.toList.length = n := hT
  obtain ⟨m, hm, hr⟩ := rem_zero s.data.toList 20 (by rw [hl]; omega)
  refine ⟨b, each n * (m + 1), rfl, ⟨bo, bc, ba, _, vw, [g], _, h, ⟨rfl, Nat.zero_le _, fun g hg hz => (by cases hz)⟩, Or.inr ⟨bt s.data.toList, KeyH.first _, (keyV_byte s w5 g bc n _ ht (by omega) hT.symm).same hk, fun i _ => ?_, Or.inl ⟨[], ⟨0, n, false⟩, List.range n, m, ?_, fun e => by cases e⟩⟩⟩, Or.inr ⟨by omega, m, hr, by rw [hl]⟩, hB⟩
  · have := bt_lt s.data.toList i
    omega
  · have := Srt.start s.data.toList (S := passSS (zeroS n n) 0 [⟨0, n, false⟩]) (m := m) (by rw [hl]; rfl) ⟨rfl, rfl, rfl⟩ rfl rfl (by rw [hl]; exact new_ord n) hr
    rw [hl] at this
    exact this
set_option maxRecDepth 100000 in
set_option maxHeartbeats 8000000 in
theorem snew_any (s : ByteArray) (n : Nat) (w : World) (hn : s.size = n) (hs : n ≤ 900000) : Calls Try.prog 19 #[.string s] w fun e w' => NewP w w' n s.data.toList e := by
  have h1 : ¬ (n : Int) > 900000 := by omega
  have hmk := make_ints n (by omega)
  have HN := Lib.hid hn
  go_enter Try.func19, Try.ntmps19
  go_wp2_with fail
  go_region
  · have HI0 := Lib.hid (new_is w n (w.heap.size) (w.heap.size + 1) (w.heap.size + 1 + 1) (by omega) (by omega) (by omega) (by omega))
    generalize ((((w.alloc (.cells (madeCells #[.int .i64 0] n) 3)).alloc (.cells (madeCells #[.int .i64 0] n) 3)).alloc (.cells (madeCells #[.int .i64 0] n) 3)).alloc (.cells #[.slice (some ⟨w.heap.size, 0, none⟩) n n, .slice (some ⟨w.heap.size + 1, 0, none⟩) n n, .slice (some ⟨w.heap.size + 1 + 1, 0, none⟩) n n, .int .i64 0, .nilFunc, .slice none 0 0, .int .i64 0, .int .i64 0, .int .i64 0, .int .i64 0, .int .i64 0] 62)).drew = w4 at *
    obtain ⟨d0, _⟩ := HI0.out.1.obj.cells
    clear hmk
    go_wp2_with fail
    go_loopw [25, 6] (fun vg _ wr => ∃ (j : Nat), vg = .int .i64 (j : Int) ∧ j ≤ n ∧ IsSo w.heap.size wr (w.heap.size + 1 + 1 + 1) (w.heap.size) (w.heap.size + 1) (w.heap.size + 1 + 1) .nilFunc (.slice none 0 0) n [] (zeroS n j) ∧ Below w.heap.size w wr) (fun vg _ _ => n - (intOf vg).toNat)
    case atStart => exact ⟨0, rfl, Nat.zero_le _, HI0.out.1, HI0.out.2⟩
    case round =>
      clear d0 HI0
      obtain ⟨j, rfl, hj, hI, hB⟩ := hrel
      have HI := Lib.hid hI
      have HB := Lib.hid hB
      obtain ⟨d0, _⟩ := hI.obj.cells
      clear hI hB
      by_cases hjn : j < n
      · have hji : (j : Int) < (n : Int) := by omega
        have cO := (HI.out.ro.cell (i := j) (by rw [toI_length, HI.out.lo]; exact hjn)).1
        have fO := (HI.out.ro.cell (i := j) (by rw [toI_length, HI.out.lo]; exact hjn)).2.1
        have HF := Lib.hid (new_fill HI.out hjn)
        have HB2 := Lib.hid (HB.out.trans HF.out.2)
        go_wp2_with fail
        go_roundw
        case rel => exact ⟨j + 1, by go_num, by omega, HF.out.1, HB2.out⟩
        case measure => simp [intOf]; omega
      · have hji : ¬ (j : Int) < (n : Int) := by omega
        have hjE : j = n := by omega
        by_cases hn2 : n < 2
        · have h2i : ¬ (n : Int) ≥ 2 := by omega
          have HR : Hid (NewP w wr n s.data.toList (.returned (.tuple #[.pointer (some ⟨w.heap.size + 1 + 1 + 1, 0, none⟩), .int .i64 0]))) := Lib.hid (new_small HN.out (hjE ▸ HI.out) hn2 HB.out)
          go_wp2_with fail
          go_ret2
          exact HR.out
        · have h2i : (n : Int) ≥ 2 := by omega
          go_wp2_with fail
          refine (byteOf_any s wr).mono ?_
          rintro e w5 ⟨rfl, hT, hB5, hZ5⟩
          have HT5 := Lib.hid hT
          have HB5 := Lib.hid (HB.out.trans (hB5.mono HB.out.size))
          have H5 := Lib.hid ((HI.out.below hB5).keyed [wr.heap.size] (fun x hx => by
            rw [List.mem_singleton] at hx
            subst hx
            have l1 := HI.out.obj.lt
            have l2 := HI.out.ro.lt
            have l3 := HI.out.rc.lt
            have l4 := HI.out.ra.lt
            exact ⟨by omega, by omega, by omega, by omega, by omega, fun e => by cases e⟩))
          have HPS : Hid ((zeroS n j).ps = []) := Lib.hid rfl
          have HLT : Hid (w.heap.size ≤ w5.heap.size) := Lib.hid HB5.out.size
          clear hT hB5 hZ5
          go_wp2_with fail
          refine (spass_any w5 0 _ _ H5.out HPS.out HLT.out (by omega)).mono ?_
          rintro e w6 ⟨rfl, vw6, hI6, hB6, hK6⟩
          have HR : Hid (NewP w w6 n s.data.toList (.returned (.tuple #[.pointer (some ⟨w.heap.size + 1 + 1 + 1, 0, none⟩), .int .i64 0]))) := Lib.hid (new_big HN.out (by omega) hs HT5.out hK6 (hjE ▸ hI6) (HB5.out.trans hB6))
          clear hI6 hB6 hK6
          go_wp2_with fail
          go_ret2
          exact HR.out
  · have HI0 := Lib.hid (new_is w n (w.heap.size) (w.heap.size + 1 + 1) (w.heap.size + 1) (by omega) (by omega) (by omega) (by omega))
    generalize ((((w.alloc (.cells (madeCells #[.int .i64 0] n) 3)).alloc (.cells (madeCells #[.int .i64 0] n) 3)).alloc (.cells (madeCells #[.int .i64 0] n) 3)).alloc (.cells #[.slice (some ⟨w.heap.size, 0, none⟩) n n, .slice (some ⟨w.heap.size + 1 + 1, 0, none⟩) n n, .slice (some ⟨w.heap.size + 1, 0, none⟩) n n, .int .i64 0, .nilFunc, .slice none 0 0, .int .i64 0, .int .i64 0, .int .i64 0, .int .i64 0, .int .i64 0] 62)).drew = w4 at *
    obtain ⟨d0, _⟩ := HI0.out.1.obj.cells
    clear hmk
    go_wp2_with fail
    go_loopw [25, 6] (fun vg _ wr => ∃ (j : Nat), vg = .int .i64 (j : Int) ∧ j ≤ n ∧ IsSo w.heap.size wr (w.heap.size + 1 + 1 + 1) (w.heap.size) (w.heap.size + 1 + 1) (w.heap.size + 1) .nilFunc (.slice none 0 0) n [] (zeroS n j) ∧ Below w.heap.size w wr) (fun vg _ _ => n - (intOf vg).toNat)
    case atStart => exact ⟨0, rfl, Nat.zero_le _, HI0.out.1, HI0.out.2⟩
    case round =>
      clear d0 HI0
      obtain ⟨j, rfl, hj, hI, hB⟩ := hrel
      have HI := Lib.hid hI
      have HB := Lib.hid hB
      obtain ⟨d0, _⟩ := hI.obj.cells
      clear hI hB
      by_cases hjn : j < n
      · have hji : (j : Int) < (n : Int) := by omega
        have cO := (HI.out.ro.cell (i := j) (by rw [toI_length, HI.out.lo]; exact hjn)).1
        have fO := (HI.out.ro.cell (i := j) (by rw [toI_length, HI.out.lo]; exact hjn)).2.1
        have HF := Lib.hid (new_fill HI.out hjn)
        have HB2 := Lib.hid (HB.out.trans HF.out.2)
        go_wp2_with fail
        go_roundw
        case rel => exact ⟨j + 1, by go_num, by omega, HF.out.1, HB2.out⟩
        case measure => simp [intOf]; omega
      · have hji : ¬ (j : Int) < (n : Int) := by omega
        have hjE : j = n := by omega
        by_cases hn2 : n < 2
        · have h2i : ¬ (n : Int) ≥ 2 := by omega
          have HR : Hid (NewP w wr n s.data.toList (.returned (.tuple #[.pointer (some ⟨w.heap.size + 1 + 1 + 1, 0, none⟩), .int .i64 0]))) := Lib.hid (new_small HN.out (hjE ▸ HI.out) hn2 HB.out)
          go_wp2_with fail
          go_ret2
          exact HR.out
        · have h2i : (n : Int) ≥ 2 := by omega
          go_wp2_with fail
          refine (byteOf_any s wr).mono ?_
          rintro e w5 ⟨rfl, hT, hB5, hZ5⟩
          have HT5 := Lib.hid hT
          have HB5 := Lib.hid (HB.out.trans (hB5.mono HB.out.size))
          have H5 := Lib.hid ((HI.out.below hB5).keyed [wr.heap.size] (fun x hx => by
            rw [List.mem_singleton] at hx
            subst hx
            have l1 := HI.out.obj.lt
            have l2 := HI.out.ro.lt
            have l3 := HI.out.rc.lt
            have l4 := HI.out.ra.lt
            exact ⟨by omega, by omega, by omega, by omega, by omega, fun e => by cases e⟩))
          have HPS : Hid ((zeroS n j).ps = []) := Lib.hid rfl
          have HLT : Hid (w.heap.size ≤ w5.heap.size) := Lib.hid HB5.out.size
          clear hT hB5 hZ5
          go_wp2_with fail
          refine (spass_any w5 0 _ _ H5.out HPS.out HLT.out (by omega)).mono ?_
          rintro e w6 ⟨rfl, vw6, hI6, hB6, hK6⟩
          have HR : Hid (NewP w w6 n s.data.toList (.returned (.tuple #[.pointer (some ⟨w.heap.size + 1 + 1 + 1, 0, none⟩), .int .i64 0]))) := Lib.hid (new_big HN.out (by omega) hs HT5.out hK6 (hjE ▸ hI6) (HB5.out.trans hB6))
          clear hI6 hB6 hK6
          go_wp2_with fail
          go_ret2
          exact HR.out
  · have HI0 := Lib.hid (new_is w n (w.heap.size + 1) (w.heap.size) (w.heap.size + 1 + 1) (by omega) (by omega) (by omega) (by omega))
    generalize ((((w.alloc (.cells (madeCells #[.int .i64 0] n) 3)).alloc (.cells (madeCells #[.int .i64 0] n) 3)).alloc (.cells (madeCells #[.int .i64 0] n) 3)).alloc (.cells #[.slice (some ⟨w.heap.size + 1, 0, none⟩) n n, .slice (some ⟨w.heap.size, 0, none⟩) n n, .slice (some ⟨w.heap.size + 1 + 1, 0, none⟩) n n, .int .i64 0, .nilFunc, .slice none 0 0, .int .i64 0, .int .i64 0, .int .i64 0, .int .i64 0, .int .i64 0] 62)).drew = w4 at *
    obtain ⟨d0, _⟩ := HI0.out.1.obj.cells
    clear hmk
    go_wp2_with fail
    go_loopw [25, 6] (fun vg _ wr => ∃ (j : Nat), vg = .int .i64 (j : Int) ∧ j ≤ n ∧ IsSo w.heap.size wr (w.heap.size + 1 + 1 + 1) (w.heap.size + 1) (w.heap.size) (w.heap.size + 1 + 1) .nilFunc (.slice none 0 0) n [] (zeroS n j) ∧ Below w.heap.size w wr) (fun vg _ _ => n - (intOf vg).toNat)
    case atStart => exact ⟨0, rfl, Nat.zero_le _, HI0.out.1, HI0.out.2⟩
    case round =>
      clear d0 HI0
      obtain ⟨j, rfl, hj, hI, hB⟩ := hrel
      have HI := Lib.hid hI
      have HB := Lib.hid hB
      obtain ⟨d0, _⟩ := hI.obj.cells
      clear hI hB
      by_cases hjn : j < n
      · have hji : (j : Int) < (n : Int) := by omega
        have cO := (HI.out.ro.cell (i := j) (by rw [toI_length, HI.out.lo]; exact hjn)).1
        have fO := (HI.out.ro.cell (i := j) (by rw [toI_length, HI.out.lo]; exact hjn)).2.1
        have HF := Lib.hid (new_fill HI.out hjn)
        have HB2 := Lib.hid (HB.out.trans HF.out.2)
        go_wp2_with fail
        go_roundw
        case rel => exact ⟨j + 1, by go_num, by omega, HF.out.1, HB2.out⟩
        case measure => simp [intOf]; omega
      · have hji : ¬ (j : Int) < (n : Int) := by omega
        have hjE : j = n := by omega
        by_cases hn2 : n < 2
        · have h2i : ¬ (n : Int) ≥ 2 := by omega
          have HR : Hid (NewP w wr n s.data.toList (.returned (.tuple #[.pointer (some ⟨w.heap.size + 1 + 1 + 1, 0, none⟩), .int .i64 0]))) := Lib.hid (new_small HN.out (hjE ▸ HI.out) hn2 HB.out)
          go_wp2_with fail
          go_ret2
          exact HR.out
        · have h2i : (n : Int) ≥ 2 := by omega
          go_wp2_with fail
          refine (byteOf_any s wr).mono ?_
          rintro e w5 ⟨rfl, hT, hB5, hZ5⟩
          have HT5 := Lib.hid hT
          have HB5 := Lib.hid (HB.out.trans (hB5.mono HB.out.size))
          have H5 := Lib.hid ((HI.out.below hB5).keyed [wr.heap.size] (fun x hx => by
            rw [List.mem_singleton] at hx
            subst hx
            have l1 := HI.out.obj.lt
            have l2 := HI.out.ro.lt
            have l3 := HI.out.rc.lt
            have l4 := HI.out.ra.lt
            exact ⟨by omega, by omega, by omega, by omega, by omega, fun e => by cases e⟩))
          have HPS : Hid ((zeroS n j).ps = []) := Lib.hid rfl
          have HLT : Hid (w.heap.size ≤ w5.heap.size) := Lib.hid HB5.out.size
          clear hT hB5 hZ5
          go_wp2_with fail
          refine (spass_any w5 0 _ _ H5.out HPS.out HLT.out (by omega)).mono ?_
          rintro e w6 ⟨rfl, vw6, hI6, hB6, hK6⟩
          have HR : Hid (NewP w w6 n s.data.toList (.returned (.tuple #[.pointer (some ⟨w.heap.size + 1 + 1 + 1, 0, none⟩), .int .i64 0]))) := Lib.hid (new_big HN.out (by omega) hs HT5.out hK6 (hjE ▸ hI6) (HB5.out.trans hB6))
          clear hI6 hB6 hK6
          go_wp2_with fail
          go_ret2
          exact HR.out
  · have HI0 := Lib.hid (new_is w n (w.heap.size + 1 + 1) (w.heap.size) (w.heap.size + 1) (by omega) (by omega) (by omega) (by omega))
    generalize ((((w.alloc (.cells (madeCells #[.int .i64 0] n) 3)).alloc (.cells (madeCells #[.int .i64 0] n) 3)).alloc (.cells (madeCells #[.int .i64 0] n) 3)).alloc (.cells #[.slice (some ⟨w.heap.size + 1 + 1, 0, none⟩) n n, .slice (some ⟨w.heap.size, 0, none⟩) n n, .slice (some ⟨w.heap.size + 1, 0, none⟩) n n, .int .i64 0, .nilFunc, .slice none 0 0, .int .i64 0, .int .i64 0, .int .i64 0, .int .i64 0, .int .i64 0] 62)).drew = w4 at *
    obtain ⟨d0, _⟩ := HI0.out.1.obj.cells
    clear hmk
    go_wp2_with fail
    go_loopw [25, 6] (fun vg _ wr => ∃ (j : Nat), vg = .int .i64 (j : Int) ∧ j ≤ n ∧ IsSo w.heap.size wr (w.heap.size + 1 + 1 + 1) (w.heap.size + 1 + 1) (w.heap.size) (w.heap.size + 1) .nilFunc (.slice none 0 0) n [] (zeroS n j) ∧ Below w.heap.size w wr) (fun vg _ _ => n - (intOf vg).toNat)
    case atStart => exact ⟨0, rfl, Nat.zero_le _, HI0.out.1, HI0.out.2⟩
    case round =>
      clear d0 HI0
      obtain ⟨j, rfl, hj, hI, hB⟩ := hrel
      have HI := Lib.hid hI
      have HB := Lib.hid hB
      obtain ⟨d0, _⟩ := hI.obj.cells
      clear hI hB
      by_cases hjn : j < n
      · have hji : (j : Int) < (n : Int) := by omega
        have cO := (HI.out.ro.cell (i := j) (by rw [toI_length, HI.out.lo]; exact hjn)).1
        have fO := (HI.out.ro.cell (i := j) (by rw [toI_length, HI.out.lo]; exact hjn)).2.1
        have HF := Lib.hid (new_fill HI.out hjn)
        have HB2 := Lib.hid (HB.out.trans HF.out.2)
        go_wp2_with fail
        go_roundw
        case rel => exact ⟨j + 1, by go_num, by omega, HF.out.1, HB2.out⟩
        case measure => simp [intOf]; omega
      · have hji : ¬ (j : Int) < (n : Int) := by omega
        have hjE : j = n := by omega
        by_cases hn2 : n < 2
        · have h2i : ¬ (n : Int) ≥ 2 := by omega
          have HR : Hid (NewP w wr n s.data.toList (.returned (.tuple #[.pointer (some ⟨w.heap.size + 1 + 1 + 1, 0, none⟩), .int .i64 0]))) := Lib.hid (new_small HN.out (hjE ▸ HI.out) hn2 HB.out)
          go_wp2_with fail
          go_ret2
          exact HR.out
        · have h2i : (n : Int) ≥ 2 := by omega
          go_wp2_with fail
          refine (byteOf_any s wr).mono ?_
          rintro e w5 ⟨rfl, hT, hB5, hZ5⟩
          have HT5 := Lib.hid hT
          have HB5 := Lib.hid (HB.out.trans (hB5.mono HB.out.size))
          have H5 := Lib.hid ((HI.out.below hB5).keyed [wr.heap.size] (fun x hx => by
            rw [List.mem_singleton] at hx
            subst hx
            have l1 := HI.out.obj.lt
            have l2 := HI.out.ro.lt
            have l3 := HI.out.rc.lt
            have l4 := HI.out.ra.lt
            exact ⟨by omega, by omega, by omega, by omega, by omega, fun e => by cases e⟩))
          have HPS : Hid ((zeroS n j).ps = []) := Lib.hid rfl
          have HLT : Hid (w.heap.size ≤ w5.heap.size) := Lib.hid HB5.out.size
          clear hT hB5 hZ5
          go_wp2_with fail
          refine (spass_any w5 0 _ _ H5.out HPS.out HLT.out (by omega)).mono ?_
          rintro e w6 ⟨rfl, vw6, hI6, hB6, hK6⟩
          have HR : Hid (NewP w w6 n s.data.toList (.returned (.tuple #[.pointer (some ⟨w.heap.size + 1 + 1 + 1, 0, none⟩), .int .i64 0]))) := Lib.hid (new_big HN.out (by omega) hs HT5.out hK6 (hjE ▸ hI6) (HB5.out.trans hB6))
          clear hI6 hB6 hK6
          go_wp2_with fail
          go_ret2
          exact HR.out
  · have HI0 := Lib.hid (new_is w n (w.heap.size + 1) (w.heap.size + 1 + 1) (w.heap.size) (by omega) (by omega) (by omega) (by omega))
    generalize ((((w.alloc (.cells (madeCells #[.int .i64 0] n) 3)).alloc (.cells (madeCells #[.int .i64 0] n) 3)).alloc (.cells (madeCells #[.int .i64 0] n) 3)).alloc (.cells #[.slice (some ⟨w.heap.size + 1, 0, none⟩) n n, .slice (some ⟨w.heap.size + 1 + 1, 0, none⟩) n n, .slice (some ⟨w.heap.size, 0, none⟩) n n, .int .i64 0, .nilFunc, .slice none 0 0, .int .i64 0, .int .i64 0, .int .i64 0, .int .i64 0, .int .i64 0] 62)).drew = w4 at *
    obtain ⟨d0, _⟩ := HI0.out.1.obj.cells
    clear hmk
    go_wp2_with fail
    go_loopw [25, 6] (fun vg _ wr => ∃ (j : Nat), vg = .int .i64 (j : Int) ∧ j ≤ n ∧ IsSo w.heap.size wr (w.heap.size + 1 + 1 + 1) (w.heap.size + 1) (w.heap.size + 1 + 1) (w.heap.size) .nilFunc (.slice none 0 0) n [] (zeroS n j) ∧ Below w.heap.size w wr) (fun vg _ _ => n - (intOf vg).toNat)
    case atStart => exact ⟨0, rfl, Nat.zero_le _, HI0.out.1, HI0.out.2⟩
    case round =>
      clear d0 HI0
      obtain ⟨j, rfl, hj, hI, hB⟩ := hrel
      have HI := Lib.hid hI
      have HB := Lib.hid hB
      obtain ⟨d0, _⟩ := hI.obj.cells
      clear hI hB
      by_cases hjn : j < n
      · have hji : (j : Int) < (n : Int) := by omega
        have cO := (HI.out.ro.cell (i := j) (by rw [toI_length, HI.out.lo]; exact hjn)).1
        have fO := (HI.out.ro.cell (i := j) (by rw [toI_length, HI.out.lo]; exact hjn)).2.1
        have HF := Lib.hid (new_fill HI.out hjn)
        have HB2 := Lib.hid (HB.out.trans HF.out.2)
        go_wp2_with fail
        go_roundw
        case rel => exact ⟨j + 1, by go_num, by omega, HF.out.1, HB2.out⟩
        case measure => simp [intOf]; omega
      · have hji : ¬ (j : Int) < (n : Int) := by omega
        have hjE : j = n := by omega
        by_cases hn2 : n < 2
        · have h2i : ¬ (n : Int) ≥ 2 := by omega
          have HR : Hid (NewP w wr n s.data.toList (.returned (.tuple #[.pointer (some ⟨w.heap.size + 1 + 1 + 1, 0, none⟩), .int .i64 0]))) := Lib.hid (new_small HN.out (hjE ▸ HI.out) hn2 HB.out)
          go_wp2_with fail
          go_ret2
          exact HR.out
        · have h2i : (n : Int) ≥ 2 := by omega
          go_wp2_with fail
          refine (byteOf_any s wr).mono ?_
          rintro e w5 ⟨rfl, hT, hB5, hZ5⟩
          have HT5 := Lib.hid hT
          have HB5 := Lib.hid (HB.out.trans (hB5.mono HB.out.size))
          have H5 := Lib.hid ((HI.out.below hB5).keyed [wr.heap.size] (fun x hx => by
            rw [List.mem_singleton] at hx
            subst hx
            have l1 := HI.out.obj.lt
            have l2 := HI.out.ro.lt
            have l3 := HI.out.rc.lt
            have l4 := HI.out.ra.lt
            exact ⟨by omega, by omega, by omega, by omega, by omega, fun e => by cases e⟩))
          have HPS : Hid ((zeroS n j).ps = []) := Lib.hid rfl
          have HLT : Hid (w.heap.size ≤ w5.heap.size) := Lib.hid HB5.out.size
          clear hT hB5 hZ5
          go_wp2_with fail
          refine (spass_any w5 0 _ _ H5.out HPS.out HLT.out (by omega)).mono ?_
          rintro e w6 ⟨rfl, vw6, hI6, hB6, hK6⟩
          have HR : Hid (NewP w w6 n s.data.toList (.returned (.tuple #[.pointer (some ⟨w.heap.size + 1 + 1 + 1, 0, none⟩), .int .i64 0]))) := Lib.hid (new_big HN.out (by omega) hs HT5.out hK6 (hjE ▸ hI6) (HB5.out.trans hB6))
          clear hI6 hB6 hK6
          go_wp2_with fail
          go_ret2
          exact HR.out
  · have HI0 := Lib.hid (new_is w n (w.heap.size + 1 + 1) (w.heap.size + 1) (w.heap.size) (by omega) (by omega) (by omega) (by omega))
    generalize ((((w.alloc (.cells (madeCells #[.int .i64 0] n) 3)).alloc (.cells (madeCells #[.int .i64 0] n) 3)).alloc (.cells (madeCells #[.int .i64 0] n) 3)).alloc (.cells #[.slice (some ⟨w.heap.size + 1 + 1, 0, none⟩) n n, .slice (some ⟨w.heap.size + 1, 0, none⟩) n n, .slice (some ⟨w.heap.size, 0, none⟩) n n, .int .i64 0, .nilFunc, .slice none 0 0, .int .i64 0, .int .i64 0, .int .i64 0, .int .i64 0, .int .i64 0] 62)).drew = w4 at *
    obtain ⟨d0, _⟩ := HI0.out.1.obj.cells
    clear hmk
    go_wp2_with fail
    go_loopw [25, 6] (fun vg _ wr => ∃ (j : Nat), vg = .int .i64 (j : Int) ∧ j ≤ n ∧ IsSo w.heap.size wr (w.heap.size + 1 + 1 + 1) (w.heap.size + 1 + 1) (w.heap.size + 1) (w.heap.size) .nilFunc (.slice none 0 0) n [] (zeroS n j) ∧ Below w.heap.size w wr) (fun vg _ _ => n - (intOf vg).toNat)
    case atStart => exact ⟨0, rfl, Nat.zero_le _, HI0.out.1, HI0.out.2⟩
    case round =>
      clear d0 HI0
      obtain ⟨j, rfl, hj, hI, hB⟩ := hrel
      have HI := Lib.hid hI
      have HB := Lib.hid hB
      obtain ⟨d0, _⟩ := hI.obj.cells
      clear hI hB
      by_cases hjn : j < n
      · have hji : (j : Int) < (n : Int) := by omega
        have cO := (HI.out.ro.cell (i := j) (by rw [toI_length, HI.out.lo]; exact hjn)).1
        have fO := (HI.out.ro.cell (i := j) (by rw [toI_length, HI.out.lo]; exact hjn)).2.1
        have HF := Lib.hid (new_fill HI.out hjn)
        have HB2 := Lib.hid (HB.out.trans HF.out.2)
        go_wp2_with fail
        go_roundw
        case rel => exact ⟨j + 1, by go_num, by omega, HF.out.1, HB2.out⟩
        case measure => simp [intOf]; omega
      · have hji : ¬ (j : Int) < (n : Int) := by omega
        have hjE : j = n := by omega
        by_cases hn2 : n < 2
        · have h2i : ¬ (n : Int) ≥ 2 := by omega
          have HR : Hid (NewP w wr n s.data.toList (.returned (.tuple #[.pointer (some ⟨w.heap.size + 1 + 1 + 1, 0, none⟩), .int .i64 0]))) := Lib.hid (new_small HN.out (hjE ▸ HI.out) hn2 HB.out)
          go_wp2_with fail
          go_ret2
          exact HR.out
        · have h2i : (n : Int) ≥ 2 := by omega
          go_wp2_with fail
          refine (byteOf_any s wr).mono ?_
          rintro e w5 ⟨rfl, hT, hB5, hZ5⟩
          have HT5 := Lib.hid hT
          have HB5 := Lib.hid (HB.out.trans (hB5.mono HB.out.size))
          have H5 := Lib.hid ((HI.out.below hB5).keyed [wr.heap.size] (fun x hx => by
            rw [List.mem_singleton] at hx
            subst hx
            have l1 := HI.out.obj.lt
            have l2 := HI.out.ro.lt
            have l3 := HI.out.rc.lt
            have l4 := HI.out.ra.lt
            exact ⟨by omega, by omega, by omega, by omega, by omega, fun e => by cases e⟩))
          have HPS : Hid ((zeroS n j).ps = []) := Lib.hid rfl
          have HLT : Hid (w.heap.size ≤ w5.heap.size) := Lib.hid HB5.out.size
          clear hT hB5 hZ5
          go_wp2_with fail
          refine (spass_any w5 0 _ _ H5.out HPS.out HLT.out (by omega)).mono ?_
          rintro e w6 ⟨rfl, vw6, hI6, hB6, hK6⟩
          have HR : Hid (NewP w w6 n s.data.toList (.returned (.tuple #[.pointer (some ⟨w.heap.size + 1 + 1 + 1, 0, none⟩), .int .i64 0]))) := Lib.hid (new_big HN.out (by omega) hs HT5.out hK6 (hjE ▸ hI6) (HB5.out.trans hB6))
          clear hI6 hB6 hK6
          go_wp2_with fail
          go_ret2
          exact HR.out
end Go.Proofs.Ytfedhppcmmponaa

/-
  THE WALKS OF LAYER 13's CODE (package picks): the reader's object; NewReader, Done, Tables, Picks, first.
-/
import Derived.Test.YtfckghaigbmeaaaPkB
import Derived.Test.YtfckghaigbmeaaaClone
import Derived.Test.YtfckghaigbmeaaaBitsRC
import Derived.Test.YtfckghaigbmeaaaBitsRB
import Derived.Deep.MidRow
import Derived.Laws.BitsAllLaws
namespace Go.Proofs.Ytfckghaigbmeaaa
open Go.RowKit PkM BitM
set_option linter.unusedVariables false
/-- The cells behind storing some side by side. -/
def setsF (F : Nat → Value) : Nat → List Value → Nat → Value
  | _, [] => F
  | o, v :: r => setsF (upd F o v) (o + 1) r
theorem ObjF.sets {n : Nat} {T : TypeId} {b : Nat} : ∀ (vs : List Value) (o : Nat) (w : World) (F : Nat → Value), ObjF n T w b F → ObjF n T (w.setCells b o vs) b (setsF F o vs)
  | [], _, _, _, h => h
  | v :: r, o, w, F, h => ObjF.sets r (o + 1) _ _ (h.set o v)
theorem setsF_far : ∀ (vs : List Value) (o : Nat) (F : Nat → Value) (k : Nat), (k < o ∨ o + vs.length ≤ k) → setsF F o vs k = F k
  | [], _, _, _, _ => rfl
  | v :: r, o, F, k, h => by
    rw [List.length_cons] at h
    rw [setsF, setsF_far r (o + 1) _ k (by omega), upd_ne _ _ (by omega)]
theorem setsF_at : ∀ (vs : List Value) (o : Nat) (F : Nat → Value) (j : Nat), j < vs.length → setsF F o vs (o + j) = vs.getD j undef
  | [], _, _, _, h => absurd h (Nat.not_lt_zero _)
  | v :: r, o, F, 0, h => by
    rw [setsF, setsF_far r (o + 1) _ _ (by omega), Nat.add_zero, upd_same]
    rfl
  | v :: r, o, F, j + 1, h => by
    rw [List.length_cons] at h
    rw [setsF, show o + (j + 1) = (o + 1) + j by omega, setsF_at r (o + 1) _ j (by omega)]
    rfl
/-- What the reader's cells are. -/
structure PF (F : Nat → Value) (pv : Value) (t n : Nat) (o : List Nat) (bad : Bool) : Prop where
  tab : F 0 = .int .i64 (t : Int)
  num : F 1 = .int .i64 (n : Int)
  row : F 2 = pv
  lst : ∀ j, j < 6 → F (3 + j) = ordF o j
  wrong : F 9 = .bool bad
/-- Block b is a reader of picks, its row of picks pv. -/
def IsPk (w : World) (b : Nat) (pv : Value) (t n : Nat) (ps o : List Nat) (bad : Bool) : Prop :=
  ∃ F, ObjF 10 71 w b F ∧ PF F pv t n o bad ∧ OwnI w (b + 1) pv (toI ps) ∧ o.length = 6 ∧ ps.length ≤ 32767
theorem IsPk.lt {w : World} {b : Nat} {pv : Value} {t n : Nat} {ps o : List Nat} {bad : Bool} (h : IsPk w b pv t n ps o bad) : ∀ k, foot b pv k → b ≤ k ∧ k < w.heap.size := by
  obtain ⟨F, h1, h2, h3, _⟩ := h
  intro k hk
  rcases hk with rfl | hk
  · exact ⟨Nat.le_refl _, h1.lt⟩
  · have := h3.lt k hk
    omega
theorem IsPk.other {w w' : World} {b : Nat} {pv : Value} {t n : Nat} {ps o : List Nat} {bad : Bool} (h : IsPk w b pv t n ps o bad) {S : Nat → Prop} (ht : Touch S w w') (hS : ∀ k, foot b pv k → ¬ S k) : IsPk w' b pv t n ps o bad := by
  have hl := h.lt
  obtain ⟨F, h1, h2, h3, h4⟩ := h
  exact ⟨F, h1.other ht (hS b (Or.inl rfl)), h2, h3.same (fun k hk => ht.block k (hl k (Or.inr hk)).2 (hS k (Or.inr hk))), h4⟩
theorem IsPk.below {w w' : World} {b : Nat} {pv : Value} {t n : Nat} {ps o : List Nat} {bad : Bool} (h : IsPk w b pv t n ps o bad) (hb : Below w.heap.size w w') : IsPk w' b pv t n ps o bad :=
  h.other (Touch.ofBelow (S := fun _ => False) hb) (fun _ _ h => h)
theorem IsPk.drewN {w : World} {b : Nat} {pv : Value} {t n : Nat} {ps o : List Nat} {bad : Bool} (h : IsPk w b pv t n ps o bad) (m : Nat) : IsPk (w.drewN m) b pv t n ps o bad := h
theorem IsPk.cells {w : World} {b : Nat} {pv : Value} {t n : Nat} {ps o : List Nat} {bad : Bool} (h : IsPk w b pv t n ps o bad) :
    w.cell? ⟨b, 0, none⟩ = some (.int .i64 (t : Int)) ∧ w.cell? ⟨b, 1, none⟩ = some (.int .i64 (n : Int)) ∧ w.cell? ⟨b, 2, none⟩ = some pv ∧ w.cell? ⟨b, 9, none⟩ = some (.bool bad) := by
  obtain ⟨F, h1, h2, _⟩ := h
  refine ⟨?_, ?_, ?_, ?_⟩
  · rw [(h1.cell (i := 0) (by omega)).1, h2.tab]
  · rw [(h1.cell (i := 1) (by omega)).1, h2.num]
  · rw [(h1.cell (i := 2) (by omega)).1, h2.row]
  · rw [(h1.cell (i := 9) (by omega)).1, h2.wrong]
theorem IsPk.frozen {w : World} {b : Nat} {pv : Value} {t n : Nat} {ps o : List Nat} {bad : Bool} (h : IsPk w b pv t n ps o bad) (i : Nat) (hi : i < 10) : w.frozen? ⟨b, i, none⟩ = false := by
  obtain ⟨F, h1, _⟩ := h
  exact (h1.cell hi).2
theorem IsPk.slice {w : World} {b : Nat} {pv : Value} {t n : Nat} {ps o : List Nat} {bad : Bool} (h : IsPk w b pv t n ps o bad) : (∃ a c, pv = .slice a ps.length c) ∧ ps.length ≤ 32767 := by
  obtain ⟨F, h1, h2, h3, h4, h5⟩ := h
  obtain ⟨a, c, e⟩ := h3.slice
  rw [toI_length] at e
  exact ⟨⟨a, c, e⟩, h5⟩
theorem IsPk.ints {w : World} {b : Nat} {pv : Value} {t n : Nat} {ps o : List Nat} {bad : Bool} (h : IsPk w b pv t n ps o bad) : IsInts w pv (toI ps) := by
  obtain ⟨F, h1, h2, h3, h4, h5⟩ := h
  exact h3.ints
theorem own_touch {w w' : World} {base b : Nat} {v : Value} {zs : List Int} (h : OwnI w base v zs) (ht : Touch (· = b) w w') (hb : b < base) : OwnI w' base v zs :=
  h.same (fun k hk => ht.block k (h.lt k hk).2 (fun e => by have e2 : k = b := e; have := (h.lt k hk).1; omega))
theorem IsPk.setTab {w : World} {b : Nat} {pv : Value} {t n : Nat} {ps o : List Nat} {bad : Bool} (h : IsPk w b pv t n ps o bad) (x : Nat) : IsPk (w.setCell ⟨b, 0, none⟩ (.int .i64 (x : Int))) b pv x n ps o bad := by
  obtain ⟨F, h1, h2, h3, h4⟩ := h
  refine ⟨_, h1.set 0 _, ⟨upd_same _ _ _, ?_, ?_, fun j hj => ?_, ?_⟩, own_touch h3 (touch_cell (Touch.refl _ _)) (Nat.lt_succ_self _), h4⟩
  · rw [upd_ne _ _ (by omega), h2.num]
  · rw [upd_ne _ _ (by omega), h2.row]
  · rw [upd_ne _ _ (by omega), h2.lst j hj]
  · rw [upd_ne _ _ (by omega), h2.wrong]
theorem IsPk.setNum {w : World} {b : Nat} {pv : Value} {t n : Nat} {ps o : List Nat} {bad : Bool} (h : IsPk w b pv t n ps o bad) (x : Nat) : IsPk (w.setCell ⟨b, 1, none⟩ (.int .i64 (x : Int))) b pv t x ps o bad := by
  obtain ⟨F, h1, h2, h3, h4⟩ := h
  refine ⟨_, h1.set 1 _, ⟨?_, upd_same _ _ _, ?_, fun j hj => ?_, ?_⟩, own_touch h3 (touch_cell (Touch.refl _ _)) (Nat.lt_succ_self _), h4⟩
  · rw [upd_ne _ _ (by omega), h2.tab]
  · rw [upd_ne _ _ (by omega), h2.row]
  · rw [upd_ne _ _ (by omega), h2.lst j hj]
  · rw [upd_ne _ _ (by omega), h2.wrong]
theorem IsPk.setBad {w : World} {b : Nat} {pv : Value} {t n : Nat} {ps o : List Nat} {bad : Bool} (h : IsPk w b pv t n ps o bad) (x : Bool) : IsPk (w.setCell ⟨b, 9, none⟩ (.bool x)) b pv t n ps o x := by
  obtain ⟨F, h1, h2, h3, h4⟩ := h
  refine ⟨_, h1.set 9 _, ⟨?_, ?_, ?_, fun j hj => ?_, upd_same _ _ _⟩, own_touch h3 (touch_cell (Touch.refl _ _)) (Nat.lt_succ_self _), h4⟩
  · rw [upd_ne _ _ (by omega), h2.tab]
  · rw [upd_ne _ _ (by omega), h2.num]
  · rw [upd_ne _ _ (by omega), h2.row]
  · rw [upd_ne _ _ (by omega), h2.lst j hj]
theorem IsPk.setList {w : World} {b : Nat} {pv : Value} {t n : Nat} {ps o : List Nat} {bad : Bool} (h : IsPk w b pv t n ps o bad) (o2 : List Nat) (ho : o2.length = 6) : IsPk (w.setCells b 3 (ordA o2).toList) b pv t n ps o2 bad := by
  obtain ⟨F, h1, h2, h3, h4, h5⟩ := h
  have hl : (ordA o2).toList.length = 6 := by rw [Array.length_toList, ordA_size]
  refine ⟨_, h1.sets _ 3 w F, ⟨?_, ?_, ?_, fun j hj => ?_, ?_⟩, own_touch h3 (touch_setCells (S := (· = b)) (g := b) rfl _ _ _) (Nat.lt_succ_self _), ho, h5⟩
  · rw [setsF_far _ _ _ _ (by omega), h2.tab]
  · rw [setsF_far _ _ _ _ (by omega), h2.num]
  · rw [setsF_far _ _ _ _ (by omega), h2.row]
  · rw [setsF_at _ _ _ _ (by omega)]
    have h6 : (ordA o2)[j]? = some (ordF o2 j) := cellsF_get 6 _ hj
    rw [List.getD_eq_getElem?_getD, Array.getElem?_toList, h6]
    rfl
  · rw [setsF_far _ _ _ _ (by omega), h2.wrong]
def zero10 (i : Nat) : Value := if i = 2 then .slice none 0 0 else if i = 9 then .bool false else .int .i64 0
set_option maxRecDepth 100000 in
theorem built10 : Try.prog.built 71 [] = some (cellsF 10 zero10) := by kernel_rfl
set_option maxHeartbeats 1000000 in
theorem pnew_any (w : World) : Calls Try.prog 28 #[] w fun e w' => e = .returned (.pointer (some ⟨w.heap.size, 0, none⟩)) ∧ IsPk w' w.heap.size (.slice none 0 0) 0 0 [] [0, 0, 0, 0, 0, 0] false ∧ Below w.heap.size w w' := by
  have hb := built10
  have hobj : Hid (IsPk (w.alloc (.cells (cellsF 10 zero10) 71)) w.heap.size (.slice none 0 0) 0 0 [] [0, 0, 0, 0, 0, 0] false) := Lib.hid ⟨_, heap_alloc_new w _, ⟨rfl, rfl, rfl, fun j hj => by
    rcases (by omega : j = 0 ∨ j = 1 ∨ j = 2 ∨ j = 3 ∨ j = 4 ∨ j = 5) with rfl | rfl | rfl | rfl | rfl | rfl <;> rfl, rfl⟩, OwnI.nil _ _, rfl, Nat.zero_le _⟩
  generalize cellsF 10 zero10 = Z at *
  go_enter Try.func28, Try.ntmps28
  go_wp2_with (refine wpList_build_is rfl 71 rfl Z hb ?_)
  go_ret
  exact ⟨rfl, hobj.out, (Below.refl _ _).alloc (Nat.le_refl _) _⟩
set_option maxHeartbeats 400000 in
theorem pdone_nil (w : World) : Calls Try.prog 29 #[.pointer none] w fun e w' => e = .returned (.bool false) ∧ ∃ n, w' = w.drewN n := by
  go_enter Try.func29, Try.ntmps29
  go_wp2_with fail
  go_quiet (fail)
  go_wp2_with fail
  go_ret
  exact ⟨rfl, _, rfl⟩
set_option maxHeartbeats 1000000 in
theorem pdone_any (b : Nat) (pv : Value) (t n : Nat) (ps o : List Nat) (bad r : Bool) (w : World) (h : IsPk w b pv t n ps o bad) (hr : r = true ↔ 1 ≤ n ∧ ps.length = n) :
    Calls Try.prog 29 #[.pointer (some ⟨b, 0, none⟩)] w fun e w' => e = .returned (.bool r) ∧ ∃ n, w' = w.drewN n := by
  obtain ⟨c0, c1, c2, c3⟩ := h.cells
  obtain ⟨⟨a, c, rfl⟩, hl⟩ := h.slice
  obtain ⟨k, hk⟩ : ∃ k, ps.length = k := ⟨_, rfl⟩
  rw [hk] at c2 hr hl
  by_cases h0 : 0 < n
  · have h0i : (0 : Int) < (n : Int) := by omega
    have hb : ((k : Int) == (n : Int)) = r := by
      rw [Bool.eq_iff_iff, beq_iff_eq, hr]
      omega
    clear h hr hk hl
    go_enter Try.func29, Try.ntmps29
    go_wp2_with fail
    go_quiet (fail)
    go_wp2_with fail
    go_ret
    exact ⟨by first | rfl | rw [hb], _, rfl⟩
  · have h0i : ¬ (0 : Int) < (n : Int) := by omega
    obtain rfl : r = false := by rw [Bool.eq_false_iff, Ne, hr]; omega
    clear h hr hk hl
    go_enter Try.func29, Try.ntmps29
    go_wp2_with fail
    go_quiet (fail)
    go_wp2_with fail
    go_ret
    exact ⟨rfl, _, rfl⟩
set_option maxHeartbeats 400000 in
theorem ptables_nil (w : World) : Calls Try.prog 31 #[.pointer none] w fun e w' => e = .returned (.int .i64 0) ∧ w' = w := by
  go_enter Try.func31, Try.ntmps31
  go_wp2_with fail
  go_ret
  exact ⟨rfl, rfl⟩
set_option maxHeartbeats 400000 in
theorem ptables_any (b : Nat) (pv : Value) (t n : Nat) (ps o : List Nat) (bad : Bool) (w : World) (h : IsPk w b pv t n ps o bad) : Calls Try.prog 31 #[.pointer (some ⟨b, 0, none⟩)] w fun e w' => e = .returned (.int .i64 (t : Int)) ∧ w' = w := by
  obtain ⟨c0, _⟩ := h.cells
  clear h
  go_enter Try.func31, Try.ntmps31
  go_wp2_with fail
  go_ret
  exact ⟨rfl, rfl⟩
set_option maxHeartbeats 400000 in
theorem ppicks_nil (w : World) : Calls Try.prog 32 #[.pointer none] w fun e w' => e = .returned (.slice none 0 0) ∧ w' = w := by
  go_enter Try.func32, Try.ntmps32
  go_wp2_with fail
  go_ret
  exact ⟨rfl, rfl⟩
set_option maxHeartbeats 1000000 in
theorem ppicks_any (b : Nat) (pv : Value) (t n : Nat) (ps o : List Nat) (bad : Bool) (w : World) (h : IsPk w b pv t n ps o bad) (hp : 1 ≤ ps.length) : Calls Try.prog 32 #[.pointer (some ⟨b, 0, none⟩)] w fun e w' => ∃ v, e = .returned v ∧ OwnI w' w.heap.size v (toI ps) ∧ Below w.heap.size w w' := by
  obtain ⟨c0, c1, c2, c3⟩ := h.cells
  have hI := h.ints
  have hl := h.slice.2
  obtain ⟨x, hx⟩ : ∃ x, (toI ps)[0]? = some x := by
    rw [List.getElem?_eq_getElem (by rw [toI_length]; omega)]
    exact ⟨_, rfl⟩
  obtain ⟨a, cap, rfl, hc⟩ := id hI
  obtain ⟨b2, off, rfl, _⟩ := hc 0 x hx
  have HC := Lib.hid (clone_any b2 off _ cap (toI ps) w hI (by rw [toI_length]; omega))
  clear h hI hc hx hl
  go_enter Try.func32, Try.ntmps32
  go_wp2_with fail
  refine HC.out.mono ?_
  rintro e w' ⟨v, rfl, hO, hB⟩
  have HO := Lib.hid hO
  have HB := Lib.hid hB
  clear hO hB
  go_wp2_with fail
  go_ret
  exact ⟨v, rfl, HO.out, HB.out⟩
/-! ### A step -/
/-- What a step leaves. -/
def StepK (w w' : World) (b rb : Nat) (pv v : Value) (l : List UInt8) (dr sp p : Nat) (o : PO) (bad : Bool) (e : Ending) : Prop :=
  ∃ pv', e = .returned (.int .i64 o.err) ∧ IsPk w' b pv' o.t o.n o.ps o.o bad ∧ IsReader w' rb v l dr sp (p + o.used) ∧ Touch (fun k => foot b pv k ∨ k = rb) w w' ∧ (∀ k, pv'.ownBlock = some k → pv.ownBlock = some k ∨ w.heap.size ≤ k)
theorem pk_l {w w' : World} {b rb : Nat} {pv : Value} (h : Touch (· = b) w w') : Touch (fun k => foot b pv k ∨ k = rb) w w' := h.mono (fun _ hk => Or.inl (Or.inl hk))
theorem pk_r {w w' : World} {b rb : Nat} {pv : Value} (h : Touch (· = rb) w w') : Touch (fun k => foot b pv k ∨ k = rb) w w' := h.mono (fun _ hk => Or.inr hk)
theorem pk_d {w : World} {b rb : Nat} {pv : Value} (m : Nat) : Touch (fun k => foot b pv k ∨ k = rb) w (w.drewN m) := touch_drewN _ _ m
theorem pk_tr {w w1 w2 : World} {b rb : Nat} {pv : Value} (h : Touch (fun k => foot b pv k ∨ k = rb) w w1) (k : Touch (fun k => foot b pv k ∨ k = rb) w1 w2) : Touch (fun k => foot b pv k ∨ k = rb) w w2 := h.trans k (fun _ hj => Or.inl hj)
theorem num18 {q : List Bool} (h : 18 ≤ q.length) : num (q.take 18) = num (q.take 3) * 32768 + num ((q.drop 3).take 15) ∧ num ((q.drop 3).take 15) < 32768 ∧ num (q.take 3) < 8 := by
  have e : q.take 18 = q.take 3 ++ (q.drop 3).take 15 := by
    rw [show 18 = 3 + 15 by rfl, List.take_add]
  have hl : ((q.drop 3).take 15).length = 15 := by rw [List.length_take, List.length_drop]; omega
  have hl3 : (q.take 3).length = 3 := by rw [List.length_take]; omega
  have h1 := num_lt ((q.drop 3).take 15)
  have h2 := num_lt (q.take 3)
  rw [hl] at h1
  rw [hl3] at h2
  refine ⟨?_, h1, h2⟩
  rw [e, num_append, hl]
theorem and15 (X : Nat) (hX : X < 4294967296) : bits BinOp.and IntKind.u32 (X : Int) 32767 = ((X % 32768 : Nat) : Int) := by
  have := u32_and_nat X 32767 hX (by omega)
  rw [show (32767 : Nat) = 2 ^ 15 - 1 by rfl, Nat.and_two_pow_sub_one_eq_mod] at this
  exact this
set_option maxRecDepth 100000 in
set_option maxHeartbeats 2000000 in
theorem pfirst_any (b rb : Nat) (pv : Value) (t : Nat) (ps o : List Nat) (v : Value) (l : List UInt8) (dr sp p : Nat) (w : World) (hD : IsPk w b pv t 0 ps o false) (hR : IsReader w rb v l dr sp p) (hs : dr + l.length ≤ 1099511627776)
    (hne : ∀ k, foot rb v k → ¬ foot b pv k) :
    Calls Try.prog 47 #[.pointer (some ⟨b, 0, none⟩), .pointer (some ⟨rb, 0, none⟩)] w fun e w' =>
      StepK w w' b rb pv v l dr sp p (pstep ((bitsOf l).drop (p - 8 * dr)) t 0 ps o false) false e := by
  have HD := Lib.hid hD
  have HNE := Lib.hid hne
  have h1 := hR.2.2.2.1
  have h2 := hR.2.2.2.2
  have hnb : Hid (∀ k, foot b pv k → ¬ k = rb) := Lib.hid (fun k hk e => hne rb (Or.inl rfl) (e ▸ hk))
  have hql : ((bitsOf l).drop (p - 8 * dr)).length = 8 * (dr + l.length) - p := by rw [List.length_drop, bitsOf_length]; omega
  by_cases h18 : ((bitsOf l).drop (p - 8 * dr)).length < 18
  · have HG := Lib.hid (get_short rb v l dr sp p 18 w hR hs (by omega) (by omega))
    have HO := Lib.hid (pstep_few ((bitsOf l).drop (p - 8 * dr)) t ps o h18)
    have HR := Lib.hid hR
    clear hD hR hne h1 h2 hql h18
    go_enter Try.func47, Try.ntmps47
    go_wp2_with fail
    refine HG.out.mono ?_
    rintro e w1 ⟨rfl, m, hw1⟩
    have K : Hid (StepK w w1 b rb pv v l dr sp p (pstep ((bitsOf l).drop (p - 8 * dr)) t 0 ps o false) false (.returned (.int .i64 3))) := Lib.hid (by
      rw [HO.out, hw1]
      exact ⟨pv, rfl, HD.out.drewN m, HR.out.drewN m, pk_d m, fun k hk => Or.inl hk⟩)
    clear hw1
    go_wp2_with fail
    go_ret
    exact K.out
  · have HG := Lib.hid (get_any rb v l dr sp p 18 w hR hs (by omega) (by omega))
    obtain ⟨n1, n2, n3⟩ := num18 (q := (bitsOf l).drop (p - 8 * dr)) (by omega)
    have HNT := fun h => pstep_noT ((bitsOf l).drop (p - 8 * dr)) t ps o h18 h
    have HNN := fun h h3 => pstep_noN ((bitsOf l).drop (p - 8 * dr)) t ps o h18 h h3
    have HOK := fun h h3 => pstep_first ((bitsOf l).drop (p - 8 * dr)) t ps o h18 h h3
    obtain ⟨T, hT⟩ : ∃ T, num (((bitsOf l).drop (p - 8 * dr)).take 3) = T := ⟨_, rfl⟩
    obtain ⟨C, hC⟩ : ∃ C, num ((((bitsOf l).drop (p - 8 * dr)).drop 3).take 15) = C := ⟨_, rfl⟩
    obtain ⟨X, hX⟩ : ∃ X, num (((bitsOf l).drop (p - 8 * dr)).take 18) = X := ⟨_, rfl⟩
    rw [hT, hC, hX] at n1
    rw [hC] at n2
    rw [hT] at n3
    rw [hT] at HNT HNN HOK
    rw [hC] at HNN HOK
    rw [hX] at HG
    clear hD hR hne h1 h2 hql h18 hX hT hC
    have HNT := Lib.hid HNT
    have HNN := Lib.hid HNN
    have HOK := Lib.hid HOK
    have hand : bits BinOp.and IntKind.u32 (X : Int) 32767 = (C : Int) := by
      rw [and15 X (by omega)]
      omega
    have hshr : (X : Int) / 2 ^ 15 = (T : Int) := by omega
    have hshr2 : (X : Int) / 32768 = (T : Int) := by omega
    have hX32 : X < 4294967296 := by omega
    clear n1
    go_enter Try.func47, Try.ntmps47
    go_wp2_with fail
    refine HG.out.mono ?_
    rintro e w1 ⟨rfl, hr1, ht1⟩
    have HR1 := Lib.hid hr1
    have HT1 := Lib.hid ht1
    have HD1 := Lib.hid (HD.out.other ht1 (fun k hk => hnb.out k hk))
    clear hr1 ht1 HG
    have hsz : (0 : Int) ≤ (X : Int) ∧ (X : Int) < 4294967296 := by omega
    by_cases hT : 2 ≤ T ∧ T ≤ 6
    · have HPN := Lib.hid (fun W => pnum_any (T : Int) true W ⟨fun _ => by omega, fun _ => rfl⟩)
      obtain ⟨c0, c1, c2, c3⟩ := HD1.out.cells
      have f0 := HD1.out.frozen 0 (by omega)
      have HD2 := Lib.hid (HD1.out.setTab T)
      have HT2 : Hid (Touch (· = b) w1 (w1.setCell ⟨b, 0, none⟩ (.int .i64 (T : Int)))) := Lib.hid (touch_cell (Touch.refl _ _))
      by_cases hC : C = 0
      · subst hC
        have HO := Lib.hid (HNN.out (by omega) rfl)
        go_wp2_with fail
        refine (HPN.out _).mono ?_
        rintro e w2 ⟨rfl, rfl⟩
        go_wp2_with fail
        go_ret
        rw [HO.out]
        exact ⟨pv, rfl, HD2.out, HR1.out.other HT2.out (fun k hk e => HNE.out k hk (Or.inl e)), pk_tr (pk_r HT1.out) (pk_l HT2.out), fun k hk => Or.inl hk⟩
      · have hC0 : ((C : Int) == 0) = false := by rw [beq_eq_false_iff_ne]; omega
        have HO := Lib.hid (HOK.out (by omega) hC)
        go_wp2_with fail
        refine (HPN.out _).mono ?_
        rintro e w2 ⟨rfl, rfl⟩
        go_wp2_with fail
        generalize hw5 : w2.setCell ⟨b, 0, none⟩ (.int .i64 (T : Int)) = w5 at *
        clear hw5
        clear c0 c1 c2 c3 f0
        refine (inOrder_any w5).mono ?_
        rintro e w4 ⟨rfl, hb4⟩
        have HD4 := Lib.hid (HD2.out.below hb4)
        have HT4 : Hid (Touch (· = b) w2 w4) := Lib.hid (HT2.out.trans (Touch.ofBelow (S := fun _ => False) hb4) (fun _ h => absurd h id))
        have f1 := HD4.out.frozen 1 (by omega)
        obtain ⟨d0, d1, d2, d3⟩ := HD4.out.cells
        have HD5 := Lib.hid (HD4.out.setNum C)
        have HT5 : Hid (Touch (· = b) w2 (w4.setCell ⟨b, 1, none⟩ (.int .i64 (C : Int)))) := Lib.hid (touch_cell HT4.out)
        have hth : (w4.setCell ⟨b, 1, none⟩ (.int .i64 (C : Int))).there b 3 (ordA O6).size := by
          rw [ordA_size]
          obtain ⟨F, k1, _⟩ := HD5.out
          intro j hj
          have k2 := k1.cell (i := 3 + j) (by omega)
          exact ⟨by rw [k2.1]; rfl, k2.2⟩
        have HD6 := Lib.hid (HD5.out.setList O6 rfl)
        have HT6 : Hid (Touch (· = b) w2 ((w4.setCell ⟨b, 1, none⟩ (.int .i64 (C : Int))).setCells b 3 (ordA O6).toList)) := Lib.hid (HT5.out.trans (touch_setCells (S := (· = b)) (g := b) rfl _ _ _) (fun _ h => Or.inl h))
        have hio := info_list
        have hone := ordA_one O6
        clear hb4
        generalize ordA O6 = A at *
        go_wp2_with (refine wpList_store_mid rfl 63 _ _ rfl b 3 A rfl rfl hth hio hone ?_)
        go_ret
        rw [HO.out]
        exact ⟨pv, rfl, HD6.out, HR1.out.other HT6.out (fun k hk e => HNE.out k hk (Or.inl e)), pk_tr (pk_r HT1.out) (pk_l HT6.out), fun k hk => Or.inl hk⟩
    · have HPN := Lib.hid (fun W => pnum_any (T : Int) false W ⟨fun e => (by cases e), fun e => absurd e (by omega)⟩)
      have HO := Lib.hid (HNT.out (by omega))
      clear hT
      go_wp2_with fail
      refine (HPN.out _).mono ?_
      rintro e w2 ⟨rfl, rfl⟩
      go_wp2_with fail
      go_ret
      rw [HO.out]
      exact ⟨pv, rfl, HD1.out, HR1.out, pk_r HT1.out, fun k hk => Or.inl hk⟩
end Go.Proofs.Ytfckghaigbmeaaa

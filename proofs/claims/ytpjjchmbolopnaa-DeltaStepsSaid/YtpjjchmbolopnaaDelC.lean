/-
  THE WALKS OF LAYER 11's CODE (package delta): the reader's object; NewReader, Done, Lens, tell, and the closure that gets a step's bits.
-/
import Derived.Test.YtpjjchmbolopnaaDel
import Derived.Test.YtpjjchmbolopnaaDelMathB
import Derived.Test.YtpjjchmbolopnaaCells
import Derived.Test.YtpjjchmbolopnaaClone
import Derived.Test.YtpjjchmbolopnaaBitsRC
import Derived.BigRegion
import Derived.BigQuiet
namespace Go.Proofs.Ytpjjchmbolopnaa
open Go.RowKit DelM BitM
set_option linter.unusedVariables false
/-- Block b is a reader's object, its cells told by F. -/
def Obj262 (w : World) (b : Nat) (F : Nat → Value) : Prop := w.heap[b]? = some (.cells (cellsF 262 F) 70 (0, 0))
theorem Obj262.cell {w : World} {b : Nat} {F : Nat → Value} (h : Obj262 w b F) {i : Nat} (hi : i < 262) : w.cell? ⟨b, i, none⟩ = some (F i) ∧ w.frozen? ⟨b, i, none⟩ = false :=
  ⟨(cell_of_row _ _ _ _ _ _ h).trans (cellsF_get 262 F hi), frozen_of_row _ _ _ _ _ h⟩
theorem Obj262.set {w : World} {b : Nat} {F : Nat → Value} (h : Obj262 w b F) (i : Nat) (x : Value) : Obj262 (w.setCell ⟨b, i, none⟩ x) b (upd F i x) := by
  have := heap_setCell_same w b i _ _ x h
  rw [cellsF_set] at this
  exact this
theorem Obj262.lt {w : World} {b : Nat} {F : Nat → Value} (h : Obj262 w b F) : b < w.heap.size := (Array.getElem?_eq_some_iff.1 h).1
theorem Obj262.other {w w' : World} {b : Nat} {F : Nat → Value} (h : Obj262 w b F) {S : Nat → Prop} (ht : Touch S w w') (hS : ¬ S b) : Obj262 w' b F :=
  (ht.block b h.lt hS).trans h
theorem Obj262.drewN {w : World} {b : Nat} {F : Nat → Value} (h : Obj262 w b F) (n : Nat) : Obj262 (w.drewN n) b F := h
/-- What the cells are: so many are to be read, ls were, now was told last, and whether a length was none. -/
structure DF (F : Nat → Value) (N : Nat) (ls : List Int) (now : Int) (bad : Bool) : Prop where
  size : F 0 = .int .i64 (N : Int)
  read : F 1 = .int .i64 (ls.length : Int)
  lens : ∀ j, j < ls.length → F (2 + j) = .int .i64 (ls.getD j 0)
  last : F 260 = .int .i64 now
  wrong : F 261 = .bool bad
def IsDel (w : World) (b : Nat) (N : Nat) (ls : List Int) (now : Int) (bad : Bool) : Prop := ∃ F, Obj262 w b F ∧ DF F N ls now bad ∧ ls.length ≤ N ∧ N ≤ 258
theorem IsDel.lt {w : World} {b N : Nat} {ls : List Int} {now : Int} {bad : Bool} (h : IsDel w b N ls now bad) : b < w.heap.size := by
  obtain ⟨F, h, _⟩ := h
  exact h.lt
theorem IsDel.other {w w' : World} {b N : Nat} {ls : List Int} {now : Int} {bad : Bool} (h : IsDel w b N ls now bad) {S : Nat → Prop} (ht : Touch S w w') (hS : ¬ S b) : IsDel w' b N ls now bad := by
  obtain ⟨F, h1, h2⟩ := h
  exact ⟨F, h1.other ht hS, h2⟩
theorem IsDel.le {w : World} {b N : Nat} {ls : List Int} {now : Int} {bad : Bool} (h : IsDel w b N ls now bad) : ls.length ≤ N ∧ N ≤ 258 := by
  obtain ⟨F, h1, h2, h3, h4⟩ := h
  exact ⟨h3, h4⟩
theorem IsDel.cells {w : World} {b N : Nat} {ls : List Int} {now : Int} {bad : Bool} (h : IsDel w b N ls now bad) :
    w.cell? ⟨b, 0, none⟩ = some (.int .i64 (N : Int)) ∧ w.cell? ⟨b, 1, none⟩ = some (.int .i64 (ls.length : Int)) ∧ w.cell? ⟨b, 260, none⟩ = some (.int .i64 now) ∧ w.cell? ⟨b, 261, none⟩ = some (.bool bad) := by
  obtain ⟨F, h1, h2, _⟩ := h
  refine ⟨?_, ?_, ?_, ?_⟩
  · rw [(h1.cell (i := 0) (by omega)).1, h2.size]
  · rw [(h1.cell (i := 1) (by omega)).1, h2.read]
  · rw [(h1.cell (i := 260) (by omega)).1, h2.last]
  · rw [(h1.cell (i := 261) (by omega)).1, h2.wrong]
theorem IsDel.ints {w : World} {b N : Nat} {ls : List Int} {now : Int} {bad : Bool} (h : IsDel w b N ls now bad) : IsInts w (.slice (some ⟨b, 2, none⟩) ls.length 258) ls := by
  obtain ⟨F, h1, h2, h3, h4⟩ := h
  refine ⟨_, _, rfl, fun i x hx => ⟨b, 2, rfl, ?_⟩⟩
  obtain ⟨hi, hx2⟩ := List.getElem?_eq_some_iff.1 hx
  rw [(h1.cell (i := 2 + i) (by omega)).1, h2.lens i hi, List.getD_eq_getElem?_getD, hx]
  rfl
/-- A length is told last. -/
theorem IsDel.told {w : World} {b N : Nat} {ls : List Int} {now : Int} {bad : Bool} (h : IsDel w b N ls now bad) (x : Int) : IsDel (w.setCell ⟨b, 260, none⟩ (.int .i64 x)) b N ls x bad := by
  obtain ⟨F, h1, h2, h3, h4⟩ := h
  refine ⟨_, h1.set 260 _, ⟨?_, ?_, fun j hj => ?_, upd_same _ _ _, ?_⟩, h3, h4⟩
  · rw [upd_ne _ _ (by omega), h2.size]
  · rw [upd_ne _ _ (by omega), h2.read]
  · rw [upd_ne _ _ (by omega), h2.lens j hj]
  · rw [upd_ne _ _ (by omega), h2.wrong]
theorem IsDel.spoilt {w : World} {b N : Nat} {ls : List Int} {now : Int} {bad : Bool} (h : IsDel w b N ls now bad) (x : Bool) : IsDel (w.setCell ⟨b, 261, none⟩ (.bool x)) b N ls now x := by
  obtain ⟨F, h1, h2, h3, h4⟩ := h
  refine ⟨_, h1.set 261 _, ⟨?_, ?_, fun j hj => ?_, ?_, upd_same _ _ _⟩, h3, h4⟩
  · rw [upd_ne _ _ (by omega), h2.size]
  · rw [upd_ne _ _ (by omega), h2.read]
  · rw [upd_ne _ _ (by omega), h2.lens j hj]
  · rw [upd_ne _ _ (by omega), h2.last]
/-- A length is read. -/
theorem IsDel.push {w : World} {b N : Nat} {ls : List Int} {now : Int} {bad : Bool} (h : IsDel w b N ls now bad) (hl : ls.length < N) (A : Nat) (hA : 2 + ls.length = A) (m : Nat) (X : Int) (hX : X = ((ls.length + 1 : Nat) : Int)) (x : Int) :
    IsDel (((w.setCell ⟨b, A, none⟩ (.int .i64 x)).drewN m).setCell ⟨b, 1, none⟩ (.int .i64 X)) b N (ls ++ [x]) now bad := by
  obtain ⟨F, h1, h2, h3, h4⟩ := h
  subst hX
  have hlen : (ls ++ [x]).length = ls.length + 1 := by rw [List.length_append]; rfl
  refine ⟨_, ((h1.set A _).drewN m).set 1 _, ⟨?_, ?_, fun j hj => ?_, ?_, ?_⟩, by rw [hlen]; exact hl, h4⟩
  · rw [upd_ne _ _ (by omega), upd_ne _ _ (by omega), h2.size]
  · rw [upd_same, hlen]
  · rw [upd_ne _ _ (by omega)]
    rw [hlen] at hj
    by_cases e : j = ls.length
    · subst e
      rw [hA, upd_same, List.getD_eq_getElem?_getD, List.getElem?_append_right (Nat.le_refl _), Nat.sub_self]
      rfl
    · rw [upd_ne _ _ (by omega), h2.lens j (by omega), List.getD_eq_getElem?_getD, List.getD_eq_getElem?_getD, List.getElem?_append_left (by omega)]
  · rw [upd_ne _ _ (by omega), upd_ne _ _ (by omega), h2.last]
  · rw [upd_ne _ _ (by omega), upd_ne _ _ (by omega), h2.wrong]
set_option maxRecDepth 100000 in
def zero262 (x : Value) (i : Nat) : Value := if i = 0 then x else if i < 261 then .int .i64 0 else .bool false
set_option maxRecDepth 100000 in
theorem built262 (x : Int) : Try.prog.built 70 [(0, .int .i64 x)] = some (cellsF 262 (zero262 (.int .i64 x))) := by kernel_rfl
set_option maxHeartbeats 1000000 in
theorem dnew_no (n : Int) (w : World) (h : n < 3 ∨ 258 < n) : Calls Try.prog 29 #[.int .i64 n] w fun e w' => e = .returned (.tuple #[.pointer none, .int .i64 1]) ∧ w' = w := by
  have HN := Lib.hid (dnum_any n false w ⟨fun e => (by cases e), fun e => by omega⟩)
  clear h
  go_enter Try.func29, Try.ntmps29
  go_wp2_with fail
  refine HN.out.mono ?_
  rintro e w' ⟨rfl, rfl⟩
  go_wp2_with fail
  go_ret2
  exact ⟨rfl, rfl⟩
set_option maxRecDepth 100000 in
set_option maxHeartbeats 1000000 in
theorem dnew_yes (N : Nat) (w : World) (h3 : 3 ≤ N) (h258 : N ≤ 258) :
    Calls Try.prog 29 #[.int .i64 (N : Int)] w fun e w' => e = .returned (.tuple #[.pointer (some ⟨w.heap.size, 0, none⟩), .int .i64 0]) ∧ IsDel w' w.heap.size N [] 0 false ∧ Below w.heap.size w w' := by
  have HN := Lib.hid (dnum_any (N : Int) true w ⟨fun _ => by omega, fun _ => rfl⟩)
  have hb := built262 (N : Int)
  have hobj : Hid (IsDel (w.alloc (.cells (cellsF 262 (zero262 (.int .i64 (N : Int)))) 70)) w.heap.size N [] 0 false) := Lib.hid ⟨_, heap_alloc_new w _, ⟨rfl, rfl, fun j hj => absurd hj (by simp), rfl, rfl⟩, Nat.zero_le _, h258⟩
  generalize cellsF 262 (zero262 (.int .i64 (N : Int))) = Z at *
  go_enter Try.func29, Try.ntmps29
  go_wp2_with fail
  refine HN.out.mono ?_
  rintro e w' ⟨rfl, rfl⟩
  go_wp2_with (refine wpList_build_one rfl 70 0 _ rfl _ rfl Z hb ?_)
  go_ret2
  exact ⟨rfl, hobj.out, (Below.refl _ _).alloc (Nat.le_refl _) _⟩
set_option maxHeartbeats 400000 in
theorem ddone_nil (w : World) : Calls Try.prog 30 #[.pointer none] w fun e w' => e = .returned (.bool false) ∧ ∃ n, w' = w.drewN n := by
  go_enter Try.func30, Try.ntmps30
  go_wp2_with fail
  go_quiet (fail)
  go_wp2_with fail
  go_ret
  exact ⟨rfl, _, rfl⟩
set_option maxHeartbeats 400000 in
theorem ddone_any (b N : Nat) (ls : List Int) (now : Int) (bad r : Bool) (w : World) (h : IsDel w b N ls now bad) (hr : r = true ↔ ls.length = N) : Calls Try.prog 30 #[.pointer (some ⟨b, 0, none⟩)] w fun e w' => e = .returned (.bool r) ∧ ∃ n, w' = w.drewN n := by
  obtain ⟨c0, c1, c2, c3⟩ := h.cells
  have hl := h.le
  have hb : ((ls.length : Int) == (N : Int)) = r := by
    rw [Bool.eq_iff_iff, beq_iff_eq, hr]
    omega
  obtain ⟨k, hk⟩ : ∃ k, ls.length = k := ⟨_, rfl⟩
  rw [hk] at c1 hb
  clear h hr hk hl
  go_enter Try.func30, Try.ntmps30
  go_wp2_with fail
  go_quiet (fail)
  go_wp2_with fail
  go_ret
  exact ⟨by first | rfl | rw [hb], _, rfl⟩
theorem slice258 (W : World) (b n : Nat) (hn : n ≤ 258) : (Instr.sliceAt 68 (.pointer (some ⟨b, 2, none⟩)) none (some (.int .i64 (n : Int))) none).run Try.prog W = .ok (.slice (some ⟨b, 2, none⟩) n 258) W := by
  have e : Try.prog.arrayLen 68 = 258 := by kernel_rfl
  have hs : (sizeOf (Try.prog.elem 68)).run Try.prog W = .ok 1 W := by kernel_rfl
  rw [run_sliceAt_array_h W _ ⟨b, 2, none⟩ (by kernel_rfl) .i64 (n : Int) (by omega) (by rw [e]; omega), hs]
  simp [Result.andThen, slicedAt, e, Addr.add]
set_option maxHeartbeats 400000 in
theorem dlens_nil (w : World) : Calls Try.prog 32 #[.pointer none] w fun e w' => e = .returned (.slice none 0 0) ∧ w' = w := by
  go_enter Try.func32, Try.ntmps32
  go_wp2_with fail
  go_ret
  exact ⟨rfl, rfl⟩
set_option maxRecDepth 100000 in
set_option maxHeartbeats 1000000 in
theorem dlens_any (b N : Nat) (ls : List Int) (now : Int) (bad : Bool) (w : World) (h : IsDel w b N ls now bad) : Calls Try.prog 32 #[.pointer (some ⟨b, 0, none⟩)] w fun e w' => ∃ v, e = .returned v ∧ OwnI w' w.heap.size v ls ∧ Below w.heap.size w w' := by
  obtain ⟨c0, c1, c2, c3⟩ := h.cells
  have hl := h.le
  have hsl := fun W => slice258 W b ls.length (by omega)
  have HC := Lib.hid (clone_any b 2 ls.length 258 ls (w.drewN 1) h.ints (by omega))
  obtain ⟨k, hk⟩ : ∃ k, ls.length = k := ⟨_, rfl⟩
  rw [hk] at c1 hsl HC
  clear h hk hl
  go_enter Try.func32, Try.ntmps32
  go_wp2_with fail
  go_still_tail 8, (by kernel_rfl)
  change wpList _ _ _ _ _ (w.drewN 1)
  clear hsl
  go_wp2_with fail
  refine HC.out.mono ?_
  rintro e w' ⟨v, rfl, hO, hB⟩
  have HO := Lib.hid hO
  have HB := Lib.hid hB
  clear hO hB
  go_wp2_with fail
  go_ret
  exact ⟨v, rfl, HO.out, (below_drewN w 1).trans HB.out⟩
set_option maxHeartbeats 1000000 in
theorem dtell_any (b N : Nat) (ls : List Int) (now x : Int) (w : World) (h : IsDel w b N ls now false) :
    Calls Try.prog 51 #[.pointer (some ⟨b, 0, none⟩), .int .i64 x] w fun e w' => e = .returned (.int .i64 (eOf (okLen x))) ∧ IsDel w' b N ls x (!okLen x) ∧ Touch (· = b) w w' := by
  have c2 : w.cell? ⟨b, 260, none⟩ = some (.int .i64 now) := h.cells.2.2.1
  have f2 : w.frozen? ⟨b, 260, none⟩ = false := by obtain ⟨F, k, _⟩ := h; exact (k.cell (i := 260) (by omega)).2
  have h1 := h.told x
  have t1 : Touch (· = b) w (w.setCell ⟨b, 260, none⟩ (.int .i64 x)) := touch_cell (Touch.refl _ _)
  have c3 : (w.setCell ⟨b, 260, none⟩ (.int .i64 x)).cell? ⟨b, 261, none⟩ = some (.bool false) := h1.cells.2.2.2
  have f3 : (w.setCell ⟨b, 260, none⟩ (.int .i64 x)).frozen? ⟨b, 261, none⟩ = false := by obtain ⟨F, k, _⟩ := h1; exact (k.cell (i := 261) (by omega)).2
  have H1 := Lib.hid h1
  have T1 := Lib.hid t1
  have HL := Lib.hid (fun W => dlen_any x (okLen x) W (okLen_iff x))
  clear h h1 t1
  generalize okLen x = r at *
  cases r
  · go_enter Try.func51, Try.ntmps51
    go_wp2_with fail
    generalize w.setCell ⟨b, 260, none⟩ (.int .i64 x) = w1 at *
    refine (HL.out w1).mono ?_
    rintro e w' ⟨rfl, rfl⟩
    go_wp2_with fail
    go_ret
    exact ⟨rfl, H1.out.spoilt true, touch_cell T1.out⟩
  · go_enter Try.func51, Try.ntmps51
    go_wp2_with fail
    generalize w.setCell ⟨b, 260, none⟩ (.int .i64 x) = w1 at *
    refine (HL.out w1).mono ?_
    rintro e w' ⟨rfl, rfl⟩
    go_wp2_with fail
    go_ret
    exact ⟨rfl, H1.out, T1.out⟩
/-- The closure's cells: which reader, and where a step began. -/
def Caught (w : World) (g3 g5 rb sp0 : Nat) : Prop := w.cell? ⟨g3, 0, none⟩ = some (.pointer (some ⟨rb, 0, none⟩)) ∧ w.cell? ⟨g5, 0, none⟩ = some (.int .i64 (sp0 : Int)) ∧ g3 ≠ rb ∧ g5 ≠ rb
theorem Caught.other {w w' : World} {g3 g5 rb sp0 : Nat} (h : Caught w g3 g5 rb sp0) {S : Nat → Prop} (ht : Touch S w w') (h3 : ¬ S g3) (h5 : ¬ S g5) : Caught w' g3 g5 rb sp0 := by
  obtain ⟨a, b, c, d⟩ := h
  refine ⟨?_, ?_, c, d⟩
  · rw [World.cell?_of_block (w := w) (a := ⟨g3, 0, none⟩) (ht.block g3 (cell_lt a) h3)]; exact a
  · rw [World.cell?_of_block (w := w) (a := ⟨g5, 0, none⟩) (ht.block g5 (cell_lt b) h5)]; exact b
set_option maxHeartbeats 1000000 in
theorem dget_any (g3 g5 rb sp0 : Nat) (v : Value) (l : List UInt8) (dr sp p n : Nat) (w : World) (hc : Caught w g3 g5 rb sp0) (hr : IsReader w rb v l dr sp p) (hs : dr + l.length ≤ 1099511627776) (hn : n ≤ 31) (hp : p + n ≤ 8 * (dr + l.length)) :
    Calls Try.prog 43 #[.int .i64 (n : Int), .pointer (some ⟨g3, 0, none⟩), .pointer (some ⟨g5, 0, none⟩)] w fun e w' => e = .returned (.tuple #[.int .i64 (num (((bitsOf l).drop (p - 8 * dr)).take n) : Int), .int .i64 0]) ∧ IsReader w' rb v l dr sp (p + n) ∧ Touch (· = rb) w w' := by
  obtain ⟨a3, a5, _, _⟩ := hc
  have HR := Lib.hid hr
  have hX : num (((bitsOf l).drop (p - 8 * dr)).take n) < 2147483648 := Nat.lt_of_lt_of_le (num_lt _) (Nat.pow_le_pow_right (by omega) (by rw [List.length_take]; omega) : 2 ^ _ ≤ 2 ^ 31)
  have HG := Lib.hid (get_any rb v l dr sp p n w hr hs (by omega) hp)
  generalize num (((bitsOf l).drop (p - 8 * dr)).take n) = X at *
  clear hr
  go_enter Try.func43, Try.ntmps43
  go_wp2_with fail
  refine HG.out.mono ?_
  rintro e w1 ⟨rfl, hr1, ht1⟩
  have HR1 := Lib.hid hr1
  have HT1 := Lib.hid ht1
  clear hr1 ht1
  go_wp2_with fail
  go_ret2
  exact ⟨rfl, HR1.out, HT1.out⟩
set_option maxHeartbeats 1000000 in
theorem dget_short (g3 g5 rb sp0 : Nat) (v : Value) (l : List UInt8) (dr sp p n : Nat) (w : World) (hc : Caught w g3 g5 rb sp0) (hr : IsReader w rb v l dr sp p) (hs : dr + l.length ≤ 1099511627776) (hn : n ≤ 31) (hp : 8 * (dr + l.length) < p + n) (h1 : 8 * dr ≤ sp0) (h2 : sp0 ≤ 8 * (dr + l.length)) :
    Calls Try.prog 43 #[.int .i64 (n : Int), .pointer (some ⟨g3, 0, none⟩), .pointer (some ⟨g5, 0, none⟩)] w fun e w' => e = .returned (.tuple #[.int .i64 0, .int .i64 3]) ∧ IsReader w' rb v l dr sp sp0 ∧ Touch (· = rb) w w' := by
  obtain ⟨a3, a5, _, _⟩ := hc
  have HR := Lib.hid hr
  have HG := Lib.hid (get_short rb v l dr sp p n w hr hs (by omega) hp)
  clear hr
  go_enter Try.func43, Try.ntmps43
  go_wp2_with fail
  refine HG.out.mono ?_
  rintro e w1 ⟨rfl, m, hw1⟩
  have HR1 : Hid (IsReader w1 rb v l dr sp p) := Lib.hid (by rw [hw1]; exact HR.out.drewN m)
  have HT1 : Hid (Touch (· = rb) w w1) := Lib.hid (by rw [hw1]; exact touch_drewN _ _ m)
  have a3' : w1.cell? ⟨g3, 0, none⟩ = some (.pointer (some ⟨rb, 0, none⟩)) := by rw [hw1]; exact a3
  have a5' : w1.cell? ⟨g5, 0, none⟩ = some (.int .i64 (sp0 : Int)) := by rw [hw1]; exact a5
  clear hw1 a3 a5
  go_wp2_with fail
  refine (seek_yes rb v l dr sp p sp0 w1 HR1.out hs h1 h2).mono ?_
  rintro e w2 ⟨rfl, hr2, ht2⟩
  have HR2 := Lib.hid hr2
  have HT2 : Hid (Touch (· = rb) w w2) := Lib.hid (HT1.out.trans ht2 (fun j hj => Or.inl hj))
  clear hr2 ht2
  go_wp2_with fail
  go_ret2
  exact ⟨rfl, HR2.out, HT2.out⟩
end Go.Proofs.Ytpjjchmbolopnaa

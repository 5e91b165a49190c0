/-
  THE WALKS OF LAYER 10's CODE (package canon): New, Size, Of.
-/
import Derived.Test.YtclmnmfdajlddaaCanB
namespace Go.Proofs.Ytclmnmfdajlddaa
open Go.RowKit CanM HufM
set_option linter.unusedVariables false
theorem wpList_build_one {P : Program} {ops : Array Oper} {rest : List Oper} {o : Oper} {a : Act} {w : World} {Q : Exit → Act → World → Prop} (hg : o.guard = none) (t : TypeId) (n : Nat) (y : Operand) (ho : o.op = .build t #[(n, y)]) (v : Value) (hy : a.eval y = v) (Z : Array Value)
    (hb : P.built t [(n, v)] = some Z) (h : wpList P ops Q rest (a.put o.dst (.agg Z)) w) : wpList P ops Q (o :: rest) a w := by
  subst hy
  refine wpList_build hg t #[(n, y)] ho ?_ ?_
  · simp [hb]
  · simpa [hb] using h
def zero838 (x : Value) (i : Nat) : Value := if i = 0 then x else if i < 259 then .int .i64 0 else if i < 517 then .int .u32 0 else if i < 775 then .int .i64 0 else if i < 796 then .int .u32 0 else if i < 817 then .int .i64 0 else .int .u32 0
set_option maxRecDepth 100000 in
theorem built68 (x : Int) : Try.prog.built 68 [(0, .int .i64 x)] = some (cellsF 838 (zero838 (.int .i64 x))) := by kernel_rfl
set_option maxHeartbeats 1000000 in
theorem new_arg (v : Value) (zs : List Int) (w : World) (hv : IsInts w v zs) (h : zs.length < 3 ∨ 258 < zs.length) :
    Calls Try.prog 28 #[v] w fun e w' => e = .returned (.tuple #[.pointer none, .int .i64 1]) ∧ w' = w := by
  obtain ⟨a, cap, rfl, _⟩ := hv
  by_cases h3 : zs.length < 3
  · have h3 : (zs.length : Int) < 3 := by omega
    clear h
    go_enter Try.func28, Try.ntmps28
    go_wp2_with fail
    go_ret2
    exact ⟨rfl, rfl⟩
  · have h4 : (258 : Int) < zs.length := by omega
    have h5 : (3 : Int) ≤ zs.length := by omega
    clear h h3
    go_enter Try.func28, Try.ntmps28
    go_wp2_with fail
    go_ret2
    exact ⟨rfl, rfl⟩
set_option maxHeartbeats 1000000 in
theorem new_table (v : Value) (zs : List Int) (w : World) (hv : IsInts w v zs) (h3 : 3 ≤ zs.length) (h258 : zs.length ≤ 258) (h : ¬ WholeP zs) :
    Calls Try.prog 28 #[v] w fun e w' => e = .returned (.tuple #[.pointer none, .int .i64 22]) ∧ w' = w := by
  have HV := Lib.hid hv
  have HH := Lib.hid h
  obtain ⟨a, cap, rfl, _⟩ := hv
  have h3i : (3 : Int) ≤ zs.length := by omega
  have h4i : (zs.length : Int) ≤ 258 := by omega
  clear h
  go_enter Try.func28, Try.ntmps28
  go_wp2_with fail
  refine (areWhole_any _ zs false w HV.out (by omega) h258 (by simpa using HH.out)).mono ?_
  rintro e w' ⟨rfl, rfl⟩
  go_wp2_with fail
  go_ret2
  exact ⟨rfl, rfl⟩
set_option maxRecDepth 100000 in
set_option maxHeartbeats 1000000 in
theorem new_yes (v : Value) (zs : List Int) (w : World) (hv : IsInts w v zs) (h3 : 3 ≤ zs.length) (h258 : zs.length ≤ 258) (h : WholeP zs) :
    Calls Try.prog 28 #[v] w fun e w' => e = .returned (.tuple #[.pointer (some ⟨w.heap.size, 0, none⟩), .int .i64 0]) ∧ IsCode w' w.heap.size zs ∧ Below w.heap.size w w' := by
  have HV := Lib.hid hv
  have HH := Lib.hid h
  obtain ⟨a, cap, rfl, _⟩ := hv
  have h3i : (3 : Int) ≤ zs.length := by omega
  have h4i : (zs.length : Int) ≤ 258 := by omega
  have hb := built68 (zs.length : Int)
  have hobj : Hid (Obj838 (w.alloc (.cells (cellsF 838 (zero838 (.int .i64 (zs.length : Int)))) 68)) w.heap.size (zero838 (.int .i64 (zs.length : Int)))) := Lib.hid (heap_alloc_new w _)
  generalize cellsF 838 (zero838 (.int .i64 (zs.length : Int))) = Z at *
  have hbel : Hid (Below w.heap.size w (w.alloc (.cells Z 68))) := Lib.hid ((Below.refl w.heap.size w).alloc (by exact Nat.le_refl _) _)
  clear h
  go_enter Try.func28, Try.ntmps28
  go_wp2_with fail
  refine (areWhole_any _ zs true w HV.out (by omega) h258 (by simpa using HH.out)).mono ?_
  rintro e w' ⟨rfl, rfl⟩
  go_wp2_with (refine wpList_build_one rfl 68 0 _ rfl _ rfl Z hb ?_)
  refine (fill_any w'.heap.size _ zs w' _ _ hobj.out rfl HV.out (Nat.le_refl _) hbel.out h258 (fun z hz => HH.out.1 z hz) HH.out.2).mono ?_
  rintro e w2 ⟨rfl, hC, hT⟩
  have HC := Lib.hid hC
  have HB : Hid (Below w'.heap.size w' w2) := Lib.hid (hbel.out.trans (hT.below (by show w'.heap.size ≤ (w'.heap.push _).size; simp) (fun i hi => by rw [hi]; exact Nat.le_refl _)))
  clear hC hT
  go_wp2_with fail
  go_ret2
  exact ⟨rfl, HC.out, HB.out⟩
set_option maxHeartbeats 400000 in
theorem csize_nil (w : World) : Calls Try.prog 32 #[.pointer none] w fun e w' => e = .returned (.int .i64 0) ∧ w' = w := by
  go_enter Try.func32, Try.ntmps32
  go_wp2
  go_ret
  exact ⟨rfl, rfl⟩
theorem IsCode.size {w : World} {b : Nat} {zs : List Int} (h : IsCode w b zs) : w.cell? ⟨b, 0, none⟩ = some (.int .i64 (zs.length : Int)) := by
  obtain ⟨F, h1, h2⟩ := h
  rw [(h1.cell (i := 0) (by omega)).1, h2.size]
theorem IsCode.sym {w : World} {b : Nat} {zs : List Int} (h : IsCode w b zs) (hw : ∀ z ∈ zs, 1 ≤ z ∧ z ≤ 20) (h258 : zs.length ≤ 258) {i : Nat} (hi : i < zs.length) :
    w.cell? ⟨b, 1 + i, none⟩ = some (.int .i64 (ln zs i : Int)) ∧ w.cell? ⟨b, 259 + i, none⟩ = some (.int .u32 (cod zs (ln zs i, i) : Int)) ∧ w.cell? ⟨b, 517 + plc zs i, none⟩ = some (.int .i64 (i : Int)) := by
  obtain ⟨F, h1, h2⟩ := h
  have hl : ln zs i < 21 := by
    have := hw (zs.getD i 0) (by rw [List.getD_eq_getElem?_getD, List.getElem?_eq_getElem hi]; exact List.getElem_mem hi)
    unfold ln; omega
  obtain ⟨a1, a2, a3⟩ := h2.sym i hi (Or.inl hl)
  have hp := plc_bound zs hi
  rw [(h1.cell (i := 1 + i) (by omega)).1, (h1.cell (i := 259 + i) (by omega)).1, (h1.cell (i := 517 + plc zs i) (by omega)).1, a1, a2, a3, cod_rank hi (ln zs i) rfl]
  exact ⟨rfl, rfl, rfl⟩
theorem IsCode.len {w : World} {b : Nat} {zs : List Int} (h : IsCode w b zs) {m : Nat} (h1 : 1 ≤ m) (h20 : m ≤ 20) :
    w.cell? ⟨b, 775 + m, none⟩ = some (.int .u32 (fcod zs m : Int)) ∧ w.cell? ⟨b, 796 + m, none⟩ = some (.int .i64 (cl zs m : Int)) ∧ w.cell? ⟨b, 817 + m, none⟩ = some (.int .u32 (((fcod zs m + rank zs m zs.length) * sz m : Nat) : Int)) := by
  obtain ⟨F, k1, k2⟩ := h
  obtain ⟨a1, a2⟩ := k2.fst m h1 (by omega)
  rw [(k1.cell (i := 775 + m) (by omega)).1, (k1.cell (i := 796 + m) (by omega)).1, (k1.cell (i := 817 + m) (by omega)).1, a1, a2, k2.end_ m h1 (by omega)]
  exact ⟨rfl, rfl, rfl⟩
set_option maxHeartbeats 400000 in
theorem csize_any (b : Nat) (zs : List Int) (w : World) (h : IsCode w b zs) : Calls Try.prog 32 #[.pointer (some ⟨b, 0, none⟩)] w fun e w' => e = .returned (.int .i64 (zs.length : Int)) ∧ w' = w := by
  have c0 := h.size
  clear h
  go_enter Try.func32, Try.ntmps32
  go_wp2
  go_ret
  exact ⟨rfl, rfl⟩
set_option maxHeartbeats 400000 in
theorem of_nil (x : Value) (w : World) : Calls Try.prog 31 #[.pointer none, x] w fun e w' => e = .returned (.tuple #[.int .u32 0, .int .i64 0, .int .i64 7]) ∧ w' = w := by
  go_enter Try.func31, Try.ntmps31
  go_wp2_with fail
  refine (csize_nil _).mono ?_
  rintro e w' ⟨rfl, rfl⟩
  go_wp2_with fail
  go_ret3
  exact ⟨rfl, rfl⟩
set_option maxHeartbeats 400000 in
theorem of_bad (b : Nat) (zs : List Int) (s : Int) (w : World) (h : IsCode w b zs) (h3 : 3 ≤ zs.length) (hs : s < 0 ∨ (zs.length : Int) ≤ s) :
    Calls Try.prog 31 #[.pointer (some ⟨b, 0, none⟩), .int .i64 s] w fun e w' => e = .returned (.tuple #[.int .u32 0, .int .i64 0, .int .i64 1]) ∧ w' = w := by
  have c0 := h.size
  have H := Lib.hid h
  have hz : ((zs.length : Int) == 0) = false := by rw [beq_eq_false_iff_ne]; omega
  clear h
  by_cases h0 : s < 0
  · clear hs
    go_enter Try.func31, Try.ntmps31
    go_wp2_with fail
    refine (csize_any b zs _ H.out).mono ?_
    rintro e w' ⟨rfl, rfl⟩
    go_wp2_with fail
    go_ret3
    exact ⟨rfl, rfl⟩
  · have h0 : (0 : Int) ≤ s := by omega
    have hs : (zs.length : Int) ≤ s := by omega
    go_enter Try.func31, Try.ntmps31
    go_wp2_with fail
    refine (csize_any b zs _ H.out).mono ?_
    rintro e w' ⟨rfl, rfl⟩
    go_wp2_with fail
    go_ret3
    exact ⟨rfl, rfl⟩
set_option maxRecDepth 100000 in
set_option maxHeartbeats 1000000 in
theorem of_yes (b : Nat) (zs : List Int) (i : Nat) (w : World) (h : IsCode w b zs) (hw : ∀ z ∈ zs, 1 ≤ z ∧ z ≤ 20) (h258 : zs.length ≤ 258) (hi : i < zs.length) :
    Calls Try.prog 31 #[.pointer (some ⟨b, 0, none⟩), .int .i64 (i : Int)] w fun e w' => e = .returned (.tuple #[.int .u32 (cod zs (ln zs i, i) : Int), .int .i64 (ln zs i : Int), .int .i64 0]) ∧ ∃ n, w' = w.drewN n := by
  have c0 := h.size
  have H := Lib.hid h
  obtain ⟨c1, c2, _⟩ := h.sym hw h258 hi
  have hz : ((zs.length : Int) == 0) = false := by rw [beq_eq_false_iff_ne]; omega
  have hlt : (i : Int) < zs.length := by omega
  have h258i : (i : Int) < 258 := by omega
  obtain ⟨A1, hA1⟩ : ∃ A1, 1 + i = A1 := ⟨_, rfl⟩
  obtain ⟨A2, hA2⟩ : ∃ A2, 259 + i = A2 := ⟨_, rfl⟩
  rw [hA1] at c1
  rw [hA2] at c2
  generalize cod zs (ln zs i, i) = C at *
  generalize ln zs i = n at *
  clear h
  go_enter Try.func31, Try.ntmps31
  go_wp2_with fail
  refine (csize_any b zs _ H.out).mono ?_
  rintro e w' ⟨rfl, rfl⟩
  go_wp2_with fail
  go_quiet (fail)
  go_wp2_with fail
  go_ret3
  exact ⟨rfl, _, rfl⟩
end Go.Proofs.Ytclmnmfdajlddaa

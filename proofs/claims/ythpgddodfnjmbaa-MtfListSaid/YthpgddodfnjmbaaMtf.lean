/-
  THE WALKS OF LAYER 6's CODE (package mtf): a list.
-/
import Derived.Test.YthpgddodfnjmbaaUsedB
import Derived.Test.YthpgddodfnjmbaaMtfMath
import Derived.Lib.BufferWrite
import Derived.Laws.StandIn
import Derived.StillTailTactics
namespace Go.Proofs.Ythpgddodfnjmbaa
open Go.RowKit UsedM MtfM
set_option linter.unusedVariables false

/-- A builtin copy whose run is known. -/
theorem wpList_copyRun {P : Program} {ops : Array Oper} {rest : List Oper} {o : Oper} {a : Act} {w : World} {Q : Exit → Act → World → Prop} (hgd : o.guard = none) (d s : Operand) (t t' : TypeId)
    (ho : o.op = .call { callee := .builtin .copy, args := #[d, s], argTypes := #[t, t'] }) (v u : Value) (hd : a.eval d = v) (hs : a.eval s = u) {v' : Value} {w' : World}
    (hr : (Builtin.copy_ #[t, t'] o.type #[v, u]).run P w = .ok v' w') (h : wpList P ops Q rest (a.put o.dst v') w') : wpList P ops Q (o :: rest) a w :=
  wpList_plain hgd fun K hK => by
    unfold Oper.wp execOp
    simp only [ho, resolve, invoke, builtin, Sem.run_bind, Sem.run_pure, Result.andThen_ok, List.map_toArray, List.map_cons, List.map_nil, hd, hs, hr]
    exact hK _ _ h
def z8 : Value := .int .u8 0
/-- The cells of a list of an order. -/
def lcells (l : List UInt8) : Array Value := (l.map u8v ++ List.replicate (256 - l.length) z8 ++ [Value.int .i64 (l.length : Int)]).toArray
theorem lcells_size (l : List UInt8) (h : l.length ≤ 256) : (lcells l).size = 257 := by
  simp [lcells]; omega
theorem lcells_get (l : List UInt8) (i : Nat) (x : UInt8) (h : l[i]? = some x) : (lcells l)[i]? = some (u8v x) := by
  have hi := (List.getElem?_eq_some_iff.1 h).1
  unfold lcells
  rw [List.getElem?_toArray, List.append_assoc, List.getElem?_append_left (by simpa using hi), List.getElem?_map, h]
  rfl
theorem lcells_len (l : List UInt8) (h : l.length ≤ 256) : (lcells l)[256]? = some (.int .i64 (l.length : Int)) := by
  unfold lcells
  rw [List.getElem?_toArray, List.getElem?_append_right (by simp; omega)]
  have : 256 - (l.map u8v ++ List.replicate (256 - l.length) z8).length = 0 := by simp; omega
  rw [this]
  rfl
/-- Block b is a list of an order. -/
def IsList (w : World) (b : Nat) (l : List UInt8) : Prop := l.length ≤ 256 ∧ w.heap[b]? = some (.cells (lcells l) 88 (0, 0))
theorem IsList.lt {w : World} {b : Nat} {l : List UInt8} (h : IsList w b l) : b < w.heap.size := (Array.getElem?_eq_some_iff.1 h.2).1
theorem IsList.cells {w : World} {b : Nat} {l : List UInt8} (h : IsList w b l) : w.cell? ⟨b, 256, none⟩ = some (.int .i64 (l.length : Int)) ∧ ∀ i x, l[i]? = some x → w.cell? ⟨b, i, none⟩ = some (.int .u8 (x.toNat : Int)) :=
  ⟨by rw [cell_of_row _ _ _ _ _ _ h.2, lcells_len l h.1], fun i x hx => by rw [cell_of_row _ _ _ _ _ _ h.2, lcells_get l i x hx]; rfl⟩
theorem IsList.other {w w' : World} {b : Nat} {l : List UInt8} {S : Nat → Prop} (h : IsList w b l) (ht : Touch S w w') (hS : ¬ S b) : IsList w' b l := ⟨h.1, (ht.block b h.lt hS).trans h.2⟩
theorem IsList.below {w w' : World} {b B : Nat} {l : List UInt8} (h : IsList w b l) (ht : Below B w w') (hB : b < B) : IsList w' b l := ⟨h.1, (ht.block b hB).trans h.2⟩
theorem IsList.drewN {w : World} {b : Nat} {l : List UInt8} (h : IsList w b l) (n : Nat) : IsList (w.drewN n) b l := h
set_option maxHeartbeats 1000000 in
theorem mlen_any (b : Nat) (l : List UInt8) (w : World) (h : IsList w b l) : Calls Try.prog 45 #[.pointer (some ⟨b, 0, none⟩)] w fun e w' => e = .returned (.int .i64 (l.length : Int)) ∧ w = w' := by
  have c0 := h.cells.1
  clear h
  go_enter Try.func45, Try.ntmps45
  go_wp2_with fail
  go_ret
  exact ⟨rfl, rfl⟩
set_option maxHeartbeats 1000000 in
theorem order_any (b : Nat) (l : List UInt8) (w : World) (h : IsList w b l) : Calls Try.prog 62 #[.pointer (some ⟨b, 0, none⟩)] w fun e w' => e = .returned (.slice (some ⟨b, 0, none⟩) l.length 256) ∧ ∃ n, w' = w.drewN n := by
  have c0 := h.cells.1
  have hl := h.1
  have hl2 : (l.length : Int) ≤ 256 := by omega
  have hl0 : (0 : Int) ≤ (l.length : Int) := by omega
  clear h
  go_enter Try.func62, Try.ntmps62
  go_wp2_with fail
  go_quiet (fail)
  go_wp2_with fail
  go_ret
  exact ⟨rfl, _, rfl⟩
set_option maxHeartbeats 1000000 in
theorem index_any (b cap : Nat) (l : List UInt8) (c : UInt8) (w : World) (h : ∀ i x, l[i]? = some x → w.cell? ⟨b, i, none⟩ = some (.int .u8 (x.toNat : Int))) :
    Calls Try.prog 61 #[.slice (some ⟨b, 0, none⟩) l.length cap, .int .u8 (c.toNat : Int)] w fun e w' => e = .returned (.int .i64 (Lib.indexByte l c)) ∧ w = w' := by
  have hb : Lib.bytesOf (l.map fun x => (x.toNat : Int)) = l := by
    unfold Lib.bytesOf
    rw [List.map_map]
    conv => rhs; rw [← List.map_id l]
    apply List.map_congr_left
    intro x _
    simp
  have hc : (c.toNat : Int).toNat.toUInt8 = c := by simp
  have hr := Lib.run_indexByteSlice (P := Try.prog) w b 0 l.length cap (l.map fun x => (x.toNat : Int)) (by simp) (fun i hi => by
    rw [Nat.zero_add, h i l[i] (List.getElem?_eq_getElem hi)]
    simp [hi]) (c.toNat : Int)
  rw [hb, hc] at hr
  have hcall : (callFunc 69 #[.slice (some ⟨b, 0, none⟩) l.length cap, .int .u8 (c.toNat : Int)]).run Try.prog w = .ok (.value (.int .i64 (Lib.indexByte l c))) w := by
    rw [run_callFunc_indexByte Try.func69 (by kernel_rfl) (by kernel_rfl) (by kernel_rfl) (by kernel_rfl), hr]
    rfl
  clear h hr hb hc
  generalize Lib.indexByte l c = I at *
  go_enter Try.func61, Try.ntmps61
  go_wp2_with fail
  go_ret
  exact ⟨rfl, rfl⟩
theorem touch_cells (l : List UInt8) (i : Nat) (x : UInt8) (hl : l.length ≤ 256) (hx : l[i]? = some x) :
    ((lcells l).toList.take 1 ++ (l.take i).map u8v ++ (lcells l).toList.drop (1 + i)).toArray.setIfInBounds 0 (u8v x) = lcells (touch l i) := by
  obtain ⟨hi, he⟩ := List.getElem?_eq_some_iff.1 hx
  have ht := touch_length l i hi
  rw [touch_cons l i hi, he] at *
  have hlist : (lcells l).toList = l.map u8v ++ List.replicate (256 - l.length) z8 ++ [Value.int .i64 (l.length : Int)] := rfl
  obtain ⟨y, r, rfl⟩ : ∃ y r, l = y :: r := List.exists_cons_of_ne_nil (by rintro rfl; simp at hi)
  apply Array.toList_inj.1
  rw [Array.toList_setIfInBounds, hlist]
  unfold lcells
  rw [ht]
  have e1 : ((y :: r).map u8v ++ List.replicate (256 - (y :: r).length) z8 ++ [Value.int .i64 ((y :: r).length : Int)]).take 1 = [u8v y] := rfl
  rw [e1, List.append_assoc, List.append_assoc, List.drop_append_of_le_length (by simp at hi ⊢; omega), ← List.map_drop, Nat.add_comm 1 i]
  simp
theorem copy_touch (w : World) (b i ty : Nat) (l : List UInt8) (h : IsList w b l) (hi : i < l.length) :
    (Builtin.copy_ #[75, 75] ty #[.slice (some ⟨b, 1, none⟩) 255 255, .slice (some ⟨b, 0, none⟩) i 256]).run Try.prog w = .ok (goInt i) (w.setRow b ((lcells l).toList.take 1 ++ (l.take i).map u8v ++ (lcells l).toList.drop (1 + i)).toArray) := by
  have hlen : ((l.take i).map u8v).length = i := by rw [List.length_map, List.length_take]; omega
  have hm : Nat.min i 255 = i := Nat.min_eq_left (by have := h.1; omega)
  have := run_copy_row (P := Try.prog) w 75 75 ty 5 b 1 255 255 ⟨b, 0, none⟩ i 256 (lcells l) 88 ((l.take i).map u8v) Try.underlying75 (by kernel_rfl) h.2 (by rw [hlen, hm]) (fun j v hj => by
    rw [List.getElem?_map] at hj
    obtain ⟨x, hx, rfl⟩ := Option.map_eq_some_iff.1 hj
    rw [Addr.add_lit, Nat.zero_add]
    rw [List.getElem?_take] at hx
    split at hx
    · exact h.cells.2 j x hx
    · cases hx) (by rw [hlen, lcells_size l h.1]; have := h.1; omega) (fun v hv => by
    obtain ⟨x, _, rfl⟩ := List.mem_map.1 hv
    rfl)
  rw [hlen] at this
  exact this
set_option maxRecDepth 100000 in
set_option maxHeartbeats 1000000 in
theorem touch_any (b i : Nat) (x : UInt8) (l : List UInt8) (w : World) (h : IsList w b l) (hx : l[i]? = some x) :
    Calls Try.prog 60 #[.pointer (some ⟨b, 0, none⟩), .int .i64 (i : Int)] w fun e w' => e = .returned (.int .u8 (x.toNat : Int)) ∧ IsList w' b (touch l i) ∧ Touch (· = b) w w' := by
  obtain ⟨hi, he⟩ := List.getElem?_eq_some_iff.1 hx
  have hl := h.1
  have c0 := h.cells.2 i x hx
  have hi2 : (i : Int) < 256 := by omega
  have hi3 : (i : Int) ≤ 256 := by omega
  have hi0 : (0 : Int) ≤ (i : Int) := by omega
  have H := Lib.hid h
  have HT := Lib.hid (touch_cells l i x hl hx)
  have HL := Lib.hid (touch_length l i hi)
  have hcp := fun (n : Nat) (ty : Nat) => copy_touch (w.drewN n) b i ty l (h.drewN n) hi
  have HCP := Lib.hid hcp
  generalize hR : ((lcells l).toList.take 1 ++ (l.take i).map u8v ++ (lcells l).toList.drop (1 + i)).toArray = R at *
  clear h hcp hR
  go_enter Try.func60, Try.ntmps60
  go_wp2_with fail
  go_still_tail 9, (by kernel_rfl)
  refine wpList_copyRun rfl _ _ 75 75 rfl _ _ rfl rfl (HCP.out 1 _) ?_
  have hset : ((w.drewN 1).setRow b R).heap[b]? = some (.cells R 88 (0, 0)) := setRow_heap _ _ _ _ _ _ (H.out.drewN 1).2
  have hRs : R.size = 257 := by
    have := congrArg Array.size HT.out
    rw [Array.size_setIfInBounds, lcells_size _ (by rw [HL.out]; exact hl)] at this
    exact this
  have hT1 : Touch (· = b) w ((w.drewN 1).setRow b R) := ⟨rfl, rfl, rfl, by simp [World.setRow, World.drewN], fun j _ hj => setRow_other (w.drewN 1) b j _ hj⟩
  generalize (w.drewN 1).setRow b R = W1 at *
  have d0 : W1.cell? ⟨b, 0, none⟩ = some (R[0]'(by omega)) := by
    rw [cell_of_row _ _ _ _ _ _ hset, Array.getElem?_eq_getElem (by omega)]
  have d1 := frozen_of_row W1 b 0 _ _ hset
  have hst := heap_setCell_same W1 b 0 _ _ (u8v x) hset
  rw [HT.out] at hst
  have HST := Lib.hid hst
  have HT1 := Lib.hid hT1
  clear hset hst hT1 HCP
  go_wp2_with fail
  go_ret
  refine ⟨rfl, ⟨by rw [HL.out]; exact hl, HST.out⟩, HT1.out.setCell (Or.inl rfl) _⟩
set_option maxHeartbeats 1000000 in
theorem find_nil (c : Value) (w : World) : Calls Try.prog 42 #[.pointer none, c] w fun e w' => e = .returned (.tuple #[.int .i64 0, .int .i64 7]) ∧ w = w' := by
  go_enter Try.func42, Try.ntmps42
  go_wp2_with fail
  go_ret2
  exact ⟨rfl, rfl⟩
set_option maxHeartbeats 1000000 in
theorem at_nil (i : Value) (w : World) : Calls Try.prog 41 #[.pointer none, i] w fun e w' => e = .returned (.tuple #[.int .u8 0, .int .i64 7]) ∧ w = w' := by
  go_enter Try.func41, Try.ntmps41
  go_wp2_with fail
  go_ret2
  exact ⟨rfl, rfl⟩
set_option maxHeartbeats 1000000 in
theorem text_nil (w : World) : Calls Try.prog 44 #[.pointer none] w fun e w' => e = .returned (.string ⟨#[]⟩) ∧ w = w' := by
  go_enter Try.func44, Try.ntmps44
  go_wp2_with fail
  go_ret
  exact ⟨rfl, rfl⟩
set_option maxHeartbeats 1000000 in
theorem mlen_nil (w : World) : Calls Try.prog 45 #[.pointer none] w fun e w' => e = .returned (.int .i64 0) ∧ w = w' := by
  go_enter Try.func45, Try.ntmps45
  go_wp2_with fail
  go_ret
  exact ⟨rfl, rfl⟩
set_option maxRecDepth 100000 in
set_option maxHeartbeats 1000000 in
theorem find_none (b : Nat) (c : UInt8) (l : List UInt8) (w : World) (h : IsList w b l) (hn : Lib.indexByte l c = -1) :
    Calls Try.prog 42 #[.pointer (some ⟨b, 0, none⟩), .int .u8 (c.toNat : Int)] w fun e w' => e = .returned (.tuple #[.int .i64 0, .int .i64 6]) ∧ ∃ n, w' = w.drewN n := by
  have H := Lib.hid h
  have HI := Lib.hid (fun n => index_any b 256 l c (w.drewN n) (h.drewN n).cells.2)
  have HN := Lib.hid hn
  clear h hn
  go_enter Try.func42, Try.ntmps42
  go_wp2_with fail
  refine (order_any b l w H.out).mono ?_
  rintro e w' ⟨rfl, n, rfl⟩
  go_wp2_with fail
  refine (HI.out n).mono ?_
  rintro e w' ⟨rfl, rfl⟩
  rw [HN.out]
  go_wp2_with fail
  go_ret2
  exact ⟨rfl, n, rfl⟩
set_option maxRecDepth 100000 in
set_option maxHeartbeats 1000000 in
theorem find_some (b o : Nat) (c : UInt8) (l : List UInt8) (w : World) (h : IsList w b l) (hn : Lib.indexByte l c = (o : Int)) (hx : l[o]? = some c) :
    Calls Try.prog 42 #[.pointer (some ⟨b, 0, none⟩), .int .u8 (c.toNat : Int)] w fun e w' => e = .returned (.tuple #[.int .i64 (o : Int), .int .i64 0]) ∧ IsList w' b (touch l o) ∧ Touch (· = b) w w' := by
  have H := Lib.hid h
  have HI := Lib.hid (fun n => index_any b 256 l c (w.drewN n) (h.drewN n).cells.2)
  have HN := Lib.hid hn
  have HX := Lib.hid hx
  clear h hn hx
  go_enter Try.func42, Try.ntmps42
  go_wp2_with fail
  refine (order_any b l w H.out).mono ?_
  rintro e w' ⟨rfl, n, rfl⟩
  go_wp2_with fail
  refine (HI.out n).mono ?_
  rintro e w' ⟨rfl, rfl⟩
  rw [HN.out]
  go_wp2_with fail
  refine (touch_any b o c l _ (H.out.drewN n) HX.out).mono ?_
  rintro e w' ⟨rfl, h1, h2⟩
  have H1 := Lib.hid h1
  have H2 := Lib.hid h2
  clear h1 h2
  go_wp2_with fail
  go_ret2
  exact ⟨rfl, H1.out, ⟨H2.out.os, H2.out.tape, H2.out.output, H2.out.size, H2.out.block⟩⟩
set_option maxRecDepth 100000 in
set_option maxHeartbeats 1000000 in
theorem at_bad (b : Nat) (i : Int) (l : List UInt8) (w : World) (h : IsList w b l) (hi : i < 0 ∨ (l.length : Int) ≤ i) :
    Calls Try.prog 41 #[.pointer (some ⟨b, 0, none⟩), .int .i64 i] w fun e w' => e = .returned (.tuple #[.int .u8 0, .int .i64 1]) ∧ w = w' := by
  have c0 := h.cells.1
  clear h
  rcases hi with hi | hi
  · go_enter Try.func41, Try.ntmps41
    go_wp2_with fail
    go_ret2
    exact ⟨rfl, rfl⟩
  · have hi0 : 0 ≤ i := by omega
    go_enter Try.func41, Try.ntmps41
    go_wp2_with fail
    go_ret2
    exact ⟨rfl, rfl⟩
set_option maxRecDepth 100000 in
set_option maxHeartbeats 1000000 in
theorem at_any (b i : Nat) (x : UInt8) (l : List UInt8) (w : World) (h : IsList w b l) (hx : l[i]? = some x) :
    Calls Try.prog 41 #[.pointer (some ⟨b, 0, none⟩), .int .i64 (i : Int)] w fun e w' => e = .returned (.tuple #[.int .u8 (x.toNat : Int), .int .i64 0]) ∧ IsList w' b (touch l i) ∧ Touch (· = b) w w' := by
  have c0 := h.cells.1
  obtain ⟨hi, _⟩ := List.getElem?_eq_some_iff.1 hx
  have hi1 : (i : Int) < (l.length : Int) := by omega
  have hi0 : (0 : Int) ≤ (i : Int) := by omega
  have H := Lib.hid h
  have HX := Lib.hid hx
  clear h hx
  go_enter Try.func41, Try.ntmps41
  go_wp2_with fail
  refine (touch_any b i x l w H.out HX.out).mono ?_
  rintro e w' ⟨rfl, h1, h2⟩
  have H1 := Lib.hid h1
  have H2 := Lib.hid h2
  clear h1 h2
  go_wp2_with fail
  go_ret2
  exact ⟨rfl, H1.out, H2.out⟩
set_option maxRecDepth 100000 in
set_option maxHeartbeats 1000000 in
theorem mtext_any (b : Nat) (l : List UInt8) (w : World) (h : IsList w b l) :
    Calls Try.prog 44 #[.pointer (some ⟨b, 0, none⟩)] w fun e w' => e = .returned (.string ⟨l.toArray⟩) ∧ ∃ n, w' = w.drewN n := by
  have H := Lib.hid h
  have hcv := fun n => bytes_conv (w.drewN n) b 256 l l.length rfl (fun j x hx => (h.drewN n).cells.2 j x hx)
  have HCV := Lib.hid hcv
  clear h hcv
  go_enter Try.func44, Try.ntmps44
  go_wp2_with fail
  refine (order_any b l w H.out).mono ?_
  rintro e w' ⟨rfl, n, rfl⟩
  have hcn := HCV.out n
  go_wp2_with fail
  go_ret
  exact ⟨rfl, n, rfl⟩
end Go.Proofs.Ythpgddodfnjmbaa

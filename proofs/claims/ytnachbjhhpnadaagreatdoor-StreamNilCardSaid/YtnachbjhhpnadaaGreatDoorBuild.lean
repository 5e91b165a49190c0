/-
  (*strings.Builder).Write AND WriteByte, AT A BUILDER THAT HAS ITS OWN ADDRESS.
-/
import Derived.Test.YtnachbjhhpnadaaGreatDoorShelf
import Derived.Test.YtnachbjhhpnadaaGreatDoorRow
namespace Go.Proofs.YtnachbjhhpnadaaGreatDoor
open Go.RowKit
set_option linter.unusedVariables false
/-- A builder that was grown, or written. -/
def Used (B b : Nat) (bs : List Value) (w : World) : Prop := Lib.BuilderAt 186 5 B b (.pointer (some ⟨b, 0, none⟩)) bs w
theorem Used.drew {B b : Nat} {bs : List Value} {w : World} (h : Used B b bs w) : Used B b bs w.drew := h
theorem Used.drewN {B b : Nat} {bs : List Value} {w : World} (h : Used B b bs w) (n : Nat) : Used B b bs (w.drewN n) := h
theorem Used.alloc {B b : Nat} {bs : List Value} {w : World} (h : Used B b bs w) (o : Obj) : Used B b bs (w.alloc o) := by
  have hlt := Lib.BuilderAt.lt h
  obtain ⟨hB, v, hb, hown, hne⟩ := h
  exact ⟨hB, v, (Below.heap_alloc w o b hlt).trans hb, hown.alloc _, hne⟩
theorem Used.other {B b : Nat} {bs : List Value} {w w' : World} {S : Nat → Prop} (h : Used B b bs w) (ht : Touch S w w') (hS : ∀ k, B ≤ k → k < w.heap.size → ¬ S k) : Used B b bs w' := by
  have hlt := Lib.BuilderAt.lt h
  obtain ⟨hB, v, hb, hown, hne⟩ := h
  refine ⟨hB, v, (ht.block b hlt (hS b hB hlt)).trans hb, ownsRow_other hown (fun k hk => ?_), hne⟩
  have := hown.lt k hk
  exact ht.block k this.2 (hS k this.1 this.2)
theorem copyCheck_used (B b : Nat) (bs : List Value) (w : World) (h : Used B b bs w) : Calls Tryz.prog 198 #[.pointer (some ⟨b, 0, none⟩)] w fun e w' => e = .returned (.tuple #[]) ∧ w = w' :=
  (Any.Builder_copyCheck_used (L := { Tryz.lays165 with }) Tryz.Builder_Extra_165.toX72 b w (Lib.BuilderAt.cell0 h)).mono fun _ _ ⟨h1, h2⟩ => ⟨h1, h2.symm⟩
theorem own_ne {w : World} {b B g : Nat} {cs : Array Value} {v : Value} {n : Nat} {xs : List Value} (h : w.ownsRow B 5 1 v n xs) (hb : w.heap[b]? = some (.cells cs 186 (0, 0))) : v.ownBlock ≠ some b := by
  rcases h.2 with ⟨rfl, _⟩ | ⟨g, cap, cur, rfl, _, hg, _⟩
  · intro e; cases e
  · intro e
    obtain rfl : g = b := by simpa [Value.ownBlock] using e
    rw [hb] at hg
    simp at hg
theorem used_put {w : World} {B b : Nat} {p v v' : Value} {bs : List Value} (hB : B ≤ b) (hb : w.heap[b]? = some (.cells #[.pointer (some ⟨b, 0, none⟩), v] 186 (0, 0))) (h : w.ownsRow B 5 1 v' bs.length bs) :
    Used B b bs (w.setCell ⟨b, 1, none⟩ v') :=
  ⟨hB, v', heap_setCell_same _ _ 1 _ _ _ hb, ownsRow_other h (fun k hk => heap_setCell_other w ⟨b, 1, none⟩ k v' (fun e => own_ne (g := 0) h hb (by rw [hk]; exact congrArg some e))), own_ne (g := 0) h hb⟩
set_option maxRecDepth 100000 in
set_option maxHeartbeats 1000000 in
theorem writeByte_any (B b : Nat) (bs : List Value) (c : Int) (w : World) (h : Used B b bs w) (hlen : bs.length + 1 ≤ 140737488355328) (hBw : B ≤ w.heap.size) :
    Calls Tryz.prog 137 #[.pointer (some ⟨b, 0, none⟩), .int .u8 c] w fun e w' => e = .returned .nilIface ∧ Used B b (bs ++ [.int .u8 c]) w' ∧ Below B w w' := by
  obtain ⟨i0, hi, hz0, hz1, hz2⟩ := info_parts info5
  have hlt := Lib.BuilderAt.lt h
  have H := Lib.hid h
  obtain ⟨hB, v, hbk, hown, hne⟩ := h
  have c1 : w.cell? ⟨b, 1, none⟩ = some v := by rw [Lib.cell_of_heap hbk]; rfl
  have HK := Lib.hid hbk
  have HO := Lib.hid hown
  have HN := Lib.hid hne
  have HI := Lib.hid hi
  have HZ0 := Lib.hid hz0
  have HZ1 := Lib.hid hz1
  have HZ2 := Lib.hid hz2
  clear hbk hown hne hi hz0 hz1 hz2
  go_enter Tryz.func137, Tryz.ntmps137
  go_wp2_with fail
  refine (copyCheck_used B b bs w H.out).mono ?_
  rintro e w' ⟨rfl, rfl⟩
  go_wp2_with (at_builtin; refine wpList_append_own _ rfl _ _ 71 rfl B 5 i0 (.int .u8 0) 1 1 Tryz.underlying71 HI.out HZ0.out HZ1.out HZ2.out rfl (by decide) _ _ _ rfl (HO.out.alloc _) ⟨w.heap.size, 0, none⟩ 1 1 [.int .u8 c] rfl rfl ?c1 ?c2 ?c3 ?c4 ?c5 ?_)
  case c1 => exact news_new _ _ _ _ rfl
  case c2 => intro u hu; simp at hu; subst hu; rfl
  case c3 => unfold maxLen; omega
  case c4 => omega
  case c5 => simp; omega
  intro v' w1 hown' hgrow _
  obtain ⟨a', c', rfl⟩ := slice_of_own hown'
  have hk1 : w1.heap[b]? = some (.cells #[.pointer (some ⟨b, 0, none⟩), v] 186 (0, 0)) := (hgrow.block b (by simp; omega) (fun e => HN.out e.symm)).trans ((Below.heap_alloc w _ b hlt).trans HK.out)
  have d1 : w1.cell? ⟨b, 1, none⟩ = some v := by rw [Lib.cell_of_heap hk1]; rfl
  have f1 : w1.frozen? ⟨b, 1, none⟩ = false := Lib.frozen_of_heap hk1 1
  have HK1 := Lib.hid hk1
  have HO1 := Lib.hid hown'
  have HB1 := Lib.hid (Below.grown ((Below.refl B w).alloc hBw _) hgrow (by simp; omega) (fun j hj => (HO.out.lt j hj).1))
  clear hk1 hown' hgrow
  go_wp2_with fail
  go_ret
  refine ⟨rfl, ?_, HB1.out.setCell hB _⟩
  exact used_put (p := v) hB HK1.out (by have := HO1.out; rwa [List.length_append])
set_option maxRecDepth 100000 in
set_option maxHeartbeats 1000000 in
theorem writeByte_built (B b : Nat) (bs : List Value) (c : Int) (w : World) (h0 : Lib.IsBuilder 186 5 B b bs w) (hlen : bs.length + 1 ≤ 140737488355328) (hBw : B ≤ w.heap.size) :
    Calls Tryz.prog 137 #[.pointer (some ⟨b, 0, none⟩), .int .u8 c] w fun e w' => e = .returned .nilIface ∧ Used B b (bs ++ [.int .u8 c]) w' ∧ Below B w w' := by
  obtain ⟨i0, hi, hz0, hz1, hz2⟩ := info_parts info5
  have HI := Lib.hid hi
  have HZ0 := Lib.hid hz0
  have HZ1 := Lib.hid hz1
  have HZ2 := Lib.hid hz2
  clear hi hz0 hz1 hz2
  go_enter Tryz.func137, Tryz.ntmps137
  go_wp2_with fail
  refine (Any.Builder_copyCheck (L := { Tryz.lays165 with }) Tryz.Builder_Extra_165.toX72 B b bs w h0).mono ?_
  rintro e w0 ⟨rfl, h, hbel⟩
  have HBEL := Lib.hid hbel
  clear hbel
  have hBw0 : B ≤ w0.heap.size := Nat.le_trans hBw HBEL.out.size
  have hlt := Lib.BuilderAt.lt h
  obtain ⟨hB, v, hbk, hown, hne⟩ := h
  have c1 : w0.cell? ⟨b, 1, none⟩ = some v := by rw [Lib.cell_of_heap hbk]; rfl
  have HK := Lib.hid hbk
  have HO := Lib.hid hown
  have HN := Lib.hid hne
  clear hbk hown hne
  go_wp2_with (at_builtin; refine wpList_append_own _ rfl _ _ 71 rfl B 5 i0 (.int .u8 0) 1 1 Tryz.underlying71 HI.out HZ0.out HZ1.out HZ2.out rfl (by decide) _ _ _ rfl (HO.out.alloc _) ⟨w0.heap.size, 0, none⟩ 1 1 [.int .u8 c] rfl rfl ?c1 ?c2 ?c3 ?c4 ?c5 ?_)
  case c1 => exact news_new _ _ _ _ rfl
  case c2 => intro u hu; simp at hu; subst hu; rfl
  case c3 => unfold maxLen; omega
  case c4 => omega
  case c5 => simp; omega
  intro v' w1 hown' hgrow _
  obtain ⟨a', c', rfl⟩ := slice_of_own hown'
  have hk1 : w1.heap[b]? = some (.cells #[.pointer (some ⟨b, 0, none⟩), v] 186 (0, 0)) := (hgrow.block b (by simp; omega) (fun e => HN.out e.symm)).trans ((Below.heap_alloc w0 _ b hlt).trans HK.out)
  have d1 : w1.cell? ⟨b, 1, none⟩ = some v := by rw [Lib.cell_of_heap hk1]; rfl
  have f1 : w1.frozen? ⟨b, 1, none⟩ = false := Lib.frozen_of_heap hk1 1
  have HK1 := Lib.hid hk1
  have HO1 := Lib.hid hown'
  have HB1 := Lib.hid (Below.grown ((Below.refl B w0).alloc hBw0 _) hgrow (by simp; omega) (fun j hj => (HO.out.lt j hj).1))
  clear hk1 hown' hgrow
  go_wp2_with fail
  go_ret
  refine ⟨rfl, ?_, HBEL.out.trans (HB1.out.setCell hB _)⟩
  exact used_put (p := v) hB HK1.out (by have := HO1.out; rwa [List.length_append])
end Go.Proofs.YtnachbjhhpnadaaGreatDoor

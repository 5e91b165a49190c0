/-
  THE WALKS OF LAYER 9's CODE (package lens): symbols by their weights.
-/
import Derived.Test.YtmlcdfimcabgkaaDoorSortG
import Derived.Test.YtmlcdfimcabgkaaDoorLenA
import Derived.Shelf.Abstract
namespace Go.Proofs.YtmlcdfimcabgkaaDoor
open Go.RowKit SymM HufM
set_option linter.unusedVariables false
/-- What the symbols by their weights are. -/
def ByP (zs : List Int) (v : Value) (w w' : World) : Prop := ∃ (g : Nat) (D : Row), v = .slice (some ⟨g, 0, none⟩) zs.length zs.length ∧ w.heap.size ≤ g ∧ RowD w' g zs.length D ∧ Blk (wtOf zs) D 0 zs.length ∧ Below w.heap.size w w'
set_option maxRecDepth 100000 in
set_option maxHeartbeats 2000000 in
theorem byWeight_any (v : Value) (zs : List Int) (w : World) (hv : IsInts w v zs) (hz : zs.length ≤ 100000) :
    Calls Tryd.prog 66 #[v] w fun e w' => ∃ r, e = .returned r ∧ ByP zs r w w' := by
  have HV0 := Lib.hid hv
  obtain ⟨a, cap, rfl, _⟩ := hv
  obtain ⟨n, hn⟩ : ∃ n, zs.length = n := ⟨_, rfl⟩
  have HN := Lib.hid hn
  obtain ⟨wA, hwA⟩ : ∃ wA, w.alloc (.cells #[.slice a n cap] 22) = wA := ⟨_, rfl⟩
  have hs1 : wA.heap.size = w.heap.size + 1 := by rw [← hwA]; simp
  have hbx : wA.cell? ⟨w.heap.size, 0, none⟩ = some (.slice a n cap) := by rw [← hwA]; simp
  have HVA : Hid (IsInts wA (.slice a n cap) zs) := Lib.hid (by rw [← hwA, ← hn]; exact HV0.out.below ((Below.refl _ w).alloc (Nat.le_refl _) _))
  have HB1 : Hid (Below w.heap.size w wA) := Lib.hid (by rw [← hwA]; exact (Below.refl _ w).alloc (Nat.le_refl _) _)
  have HWA := Lib.hid hwA
  obtain ⟨g, hg⟩ : ∃ g, w.heap.size + 1 = g := ⟨_, rfl⟩
  have hmk := make_ints n (by omega) (w.alloc (.cells #[.slice a n cap] 22))
  have hmade := RowD.made (w.alloc (.cells #[.slice a n cap] 22)) n
  have hs2 : (w.alloc (.cells #[.slice a n cap] 22)).heap.size = g := by rw [← hg]; simp
  rw [hs2] at hmk hmade
  have HR0 := Lib.hid hmade
  have HBX := Lib.hid hbx
  have HG : Hid (wA.heap.size = g) := Lib.hid (by rw [hs1]; exact hg)
  have HG2 : Hid (w.heap.size + 1 = g) := Lib.hid hg
  have hb0 : Hid (Below g wA ((w.alloc (.cells #[.slice a n cap] 22)).alloc (.cells (madeCells #[Value.int .i64 0] n) 3))) := Lib.hid (by rw [hwA, ← HG.out]; exact (Below.refl _ wA).alloc (Nat.le_refl _) _)
  rw [hn] at hz ⊢
  clear hwA hn hbx hmade hs1 hg
  go_enter Tryd.func66, Tryd.ntmps66
  go_wp2_with fail
  generalize (w.alloc (.cells #[.slice a n cap] 22)).alloc (.cells (madeCells #[Value.int .i64 0] n) 3) = w1 at *
  go_wp2_with fail
  go_loopw [10] (fun i wr => ∃ k : Nat, k ≤ n ∧ i = .int .i64 k ∧ RowD wr g n (fun j => if j < k then (j : Int) else 0) ∧ Below g wA wr) (fun i _ => n - (intOf i).toNat)
  case atStart => exact ⟨0, Nat.zero_le _, rfl, HR0.out.congr (fun j _ => by simp), hb0.out⟩
  case round =>
    obtain ⟨k, hk, rfl, hR, hB⟩ := hrel
    have HR := Lib.hid hR
    have HB := Lib.hid hB
    clear hR hB
    by_cases hlk : k < n
    · have hki : (k : Int) < (n : Int) := by omega
      obtain ⟨c1, f1⟩ := HR.out.cell hlk
      go_wp2_with fail
      go_roundw
      case rel => exact ⟨k + 1, by omega, by go_num, (HR.out.set hlk k).congr (fun j _ => by
        by_cases e : j = k
        · subst e; simp
        · have : (j < k + 1) = (j < k) := by apply propext; omega
          simp [e, this]), HB.out.setCell (p := ⟨g, k, none⟩) (Nat.le_refl _) _⟩
      case measure => simp [intOf]; omega
    · have hki : ¬ (k : Int) < (n : Int) := by omega
      obtain rfl : n = k := by omega
      have HRF : Hid (RowD wr g n (fun j => (j : Int))) := Lib.hid (HR.out.congr (fun j hj => by simp [hj]))
      have hcmp : Hid (CmpF 69 #[.pointer (some ⟨w.heap.size, 0, none⟩)] g n (wtOf zs) (Below g wA)) := Lib.hid ⟨enters_of Tryd.func69 (by kernel_rfl) rfl,
        fun W W' h ht => ⟨ht.os.trans h.os, ht.tape.trans h.tape, ht.output.trans h.output, Nat.le_trans h.size ht.size, fun i hi => (ht.block i (by have := h.size; have := HG.out; omega) (fun e => by have e' : i = g := e; omega)).trans (h.block i hi)⟩,
        fun W x y hI hx0 hx hy0 hy => by
          have hgw := HG.out
          have hIn : IsInts W (.slice a n cap) zs := HVA.out.below (by rw [hgw]; exact hI)
          have hcl : W.cell? ⟨w.heap.size, 0, none⟩ = some (.slice a n cap) := (hI.cell (p := ⟨w.heap.size, 0, none⟩) (by show w.heap.size < g; have := HG2.out; omega)).trans HBX.out
          exact less_any w.heap.size (.slice a n cap) zs W x y hcl hIn (by rw [HN.out]; exact hz) hx0 (by rw [HN.out]; exact hx) hy0 (by rw [HN.out]; exact hy)⟩
      go_wp2_with fail
      refine (sortStable_any hcmp.out hz wr HRF.out HB.out).mono ?_
      rintro e w' ⟨rfl, ⟨D, hD, hBlk⟩, hT⟩
      have HD := Lib.hid hD
      have HBL := Lib.hid hBlk
      have HT := Lib.hid hT
      clear hD hBlk hT
      go_wp2_with fail
      go_ret
      have hn := HN.out
      have hg2 := HG2.out
      refine ⟨.slice (some ⟨g, 0, none⟩) n n, rfl, g, D, by rw [hn], by omega, by rw [hn]; exact HD.out, by rw [hn]; exact HBL.out, ?_⟩
      exact (HB1.out.trans (HB.out.mono (by omega))).trans (HT.out.below (B := w.heap.size) (by have := HB.out.size; have := HG.out; omega) (fun i hi => by have e' : i = g := hi; omega))
end Go.Proofs.YtmlcdfimcabgkaaDoor

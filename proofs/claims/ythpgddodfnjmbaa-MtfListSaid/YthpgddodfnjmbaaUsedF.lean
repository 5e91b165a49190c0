/-
  THE WALKS OF LAYER 5's CODE (package used): Read; and the statements' one byte.
-/
import Derived.Test.YthpgddodfnjmbaaUsedE
import Derived.Test.YthpgddodfnjmbaaUsedC
namespace Go.Proofs.Ythpgddodfnjmbaa
open Go.RowKit BitM UsedM
set_option linter.unusedVariables false
/-- What 'Read' tells. -/
def Told (w w' : World) (b : Nat) (v : Value) (l : List UInt8) (dr sp p : Nat) (t : ByteArray) (err p' : Nat) : Prop :=
  IsReader w' b v l dr sp p' ∧ Touch (· = b) w w' ∧ match rdk ((bitsOf l).drop (p - 8 * dr)) 16 with
    | none => t = ⟨#[]⟩ ∧ err = 3 ∧ p' = p
    | some (n, S) => (syms S 256 = [] ∧ t = ⟨#[]⟩ ∧ err = 25 ∧ p' = p) ∨ (syms S 256 ≠ [] ∧ t = ⟨(syms S 256).toArray⟩ ∧ err = 0 ∧ p' = p + n)
set_option maxHeartbeats 1000000 in
theorem uread_nil (w : World) : Calls Try.prog 33 #[.pointer none] w fun e w' => e = .returned (.tuple #[.string ⟨#[]⟩, .int .i64 7]) ∧ w = w' := by
  go_enter Try.func33, Try.ntmps33
  go_wp2_with fail
  go_ret2
  exact ⟨rfl, rfl⟩
set_option maxRecDepth 100000 in
set_option maxHeartbeats 1000000 in
theorem uread_any (b : Nat) (v : Value) (l : List UInt8) (dr sp p : Nat) (w : World) (h : IsReader w b v l dr sp p) (hs : dr + l.length ≤ 1099511627776) :
    Calls Try.prog 33 #[.pointer (some ⟨b, 0, none⟩)] w fun e w' => ∃ (t : ByteArray) (err p' : Nat), e = .returned (.tuple #[.string t, .int .i64 (err : Int)]) ∧ Told w w' b v l dr sp p t err p' := by
  have hp1 := h.2.2.2.1
  have hp2 := h.2.2.2.2
  have H := Lib.hid h
  clear h
  go_enter Try.func33, Try.ntmps33
  go_wp2_with fail
  refine (rat_any b v l dr sp p w H.out).mono ?_
  rintro e w' ⟨rfl, rfl⟩
  go_wp2_with fail
  refine (read_any b v l dr sp p w H.out hs).mono ?_
  rintro e w1 ⟨A, err, p1, rfl, hr, ht, hA, hone, hm⟩
  have hg0 : (w1.alloc (.cells #[.int .u32 0, .int .u32 0, .int .u32 0, .int .u32 0, .int .u32 0, .int .u32 0, .int .u32 0, .int .u32 0, .int .u32 0, .int .u32 0, .int .u32 0, .int .u32 0, .int .u32 0, .int .u32 0, .int .u32 0, .int .u32 0] 73)).heap[w1.heap.size]? = some (.cells #[.int .u32 0, .int .u32 0, .int .u32 0, .int .u32 0, .int .u32 0, .int .u32 0, .int .u32 0, .int .u32 0, .int .u32 0, .int .u32 0, .int .u32 0, .int .u32 0, .int .u32 0, .int .u32 0, .int .u32 0, .int .u32 0] 73 (0, 0)) := heap_alloc_new _ _
  have hg1 := setRow_heap _ _ _ A _ _ hg0
  have hi := info16 A hA
  have hold : (#[.int .u32 0, .int .u32 0, .int .u32 0, .int .u32 0, .int .u32 0, .int .u32 0, .int .u32 0, .int .u32 0, .int .u32 0, .int .u32 0, .int .u32 0, .int .u32 0, .int .u32 0, .int .u32 0, .int .u32 0, .int .u32 0] : Array Value).size = A.size := hA.symm
  have hb1 : Below w1.heap.size w1 ((w1.alloc (.cells #[.int .u32 0, .int .u32 0, .int .u32 0, .int .u32 0, .int .u32 0, .int .u32 0, .int .u32 0, .int .u32 0, .int .u32 0, .int .u32 0, .int .u32 0, .int .u32 0, .int .u32 0, .int .u32 0, .int .u32 0, .int .u32 0] 73)).setRow w1.heap.size A) := below_setRow (B := w1.heap.size) ((Below.refl _ _).alloc (Nat.le_refl _) _) (by exact Nat.le_refl _) A
  generalize hW2 : (w1.alloc (.cells #[.int .u32 0, .int .u32 0, .int .u32 0, .int .u32 0, .int .u32 0, .int .u32 0, .int .u32 0, .int .u32 0, .int .u32 0, .int .u32 0, .int .u32 0, .int .u32 0, .int .u32 0, .int .u32 0, .int .u32 0, .int .u32 0] 73)).setRow w1.heap.size A = w2 at *
  have HR := Lib.hid (hr.other (Touch.ofBelow (S := fun _ => False) hb1) (fun _ _ h => h))
  have HT := Lib.hid (ht.trans (Touch.ofBelow (S := fun _ => False) hb1) (fun i hi => hi.elim))
  have HM := Lib.hid hm
  clear hr ht hm hA hb1
  have hcase : (err = 0 ∧ ∃ n S, rdk ((bitsOf l).drop (p - 8 * dr)) 16 = some (n, S) ∧ syms S 256 ≠ [] ∧ A = arr S ∧ p1 = p + n) ∨ ((err != 0) = true ∧ (match rdk ((bitsOf l).drop (p - 8 * dr)) 16 with
      | none => err = 3
      | some (n, S) => syms S 256 = [] ∧ err = 25)) := by
    have hm := HM.out
    rcases hrd : rdk ((bitsOf l).drop (p - 8 * dr)) 16 with _ | ⟨n, S⟩
    · rw [hrd] at hm
      have hm' : err = 3 := hm
      subst hm'
      exact Or.inr ⟨rfl, rfl⟩
    · rw [hrd] at hm
      rcases hm with ⟨h1, rfl⟩ | ⟨h1, rfl, h2, h3⟩
      · exact Or.inr ⟨rfl, h1, rfl⟩
      · exact Or.inl ⟨rfl, n, S, rfl, h1, h2, h3⟩
  rcases hcase with ⟨rfl, n, S, hrd, hsy, rfl, rfl⟩ | ⟨hne, hmm⟩
  · have HX := Lib.hid (fun w => text_any S w)
    have HRD := Lib.hid hrd
    have HSY := Lib.hid hsy
    clear hrd hsy
    generalize hAA : arr S = A at *
    go_wp2_with (first | (refine wpList_load_row rfl 73 _ rfl w1.heap.size rfl 73 A (0, 0) _ (by exact hg1) Try.underlying73 rfl hi ?_) | (refine wpList_store_row rfl 73 _ _ rfl w1.heap.size A rfl rfl 73 _ hg0 hi hold hone ?_; rw [hW2]))
    refine (HX.out w2).mono ?_
    rintro e w3 ⟨rfl, hb3⟩
    have HR3 := Lib.hid (HR.out.other (Touch.ofBelow (S := fun _ => False) hb3) (fun _ _ h => h))
    have HT3 := Lib.hid (HT.out.trans (Touch.ofBelow (S := fun _ => False) hb3) (fun i hi => hi.elim))
    clear hb3
    go_wp2_with fail
    go_ret2
    exact ⟨_, 0, p + n, rfl, HR3.out, HT3.out, by rw [HRD.out]; exact Or.inr ⟨HSY.out, rfl, rfl, rfl⟩⟩
  · have hne2 : ((err : Int) != 0) = true := by
      rw [bne_iff_ne] at hne ⊢
      omega
    have HMM := Lib.hid hmm
    clear hmm hne
    go_wp2_with (first | (refine wpList_load_row rfl 73 _ rfl w1.heap.size rfl 73 A (0, 0) _ (by exact hg1) Try.underlying73 rfl hi ?_) | (refine wpList_store_row rfl 73 _ _ rfl w1.heap.size A rfl rfl 73 _ hg0 hi hold hone ?_; rw [hW2]))
    refine (seek_yes b v l dr sp p1 p w2 HR.out hs hp1 hp2).mono ?_
    rintro e w3 ⟨rfl, hr3, ht3⟩
    have HR3 := Lib.hid hr3
    have HT3 := Lib.hid (HT.out.trans ht3 (fun i hi => Or.inl hi))
    clear hr3 ht3
    go_wp2_with fail
    go_ret2
    refine ⟨_, err, p, rfl, HR3.out, HT3.out, ?_⟩
    have hm := HMM.out
    rcases hrd : rdk ((bitsOf l).drop (p - 8 * dr)) 16 with _ | ⟨n, S⟩
    · rw [hrd] at hm
      exact ⟨rfl, hm, rfl⟩
    · rw [hrd] at hm
      exact Or.inl ⟨hm.1, rfl, hm.2, rfl⟩
end Go.Proofs.Ythpgddodfnjmbaa

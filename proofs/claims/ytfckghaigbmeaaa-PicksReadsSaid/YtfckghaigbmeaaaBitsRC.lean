/-
  THE WALKS OF LAYER 1's CODE (package bits): the reader's Seek and Align.
-/
import Derived.Test.YtfckghaigbmeaaaBitsRB
import Derived.StillTailTactics
namespace Go.Proofs.Ytfckghaigbmeaaa
open Go.RowKit BitM
set_option linter.unusedVariables false
set_option maxHeartbeats 400000 in
theorem seek_yes (b : Nat) (v : Value) (l : List UInt8) (dr sp p q : Nat) (w : World) (h : IsReader w b v l dr sp p) (hs : dr + l.length ≤ 1099511627776) (h1 : 8 * dr ≤ q) (h2 : q ≤ 8 * (dr + l.length)) :
    Calls Try.prog 22 #[.pointer (some ⟨b, 0, none⟩), .int .i64 (q : Int)] w fun e w' => e = .returned (.int .i64 0) ∧ IsReader w' b v l dr sp q ∧ Touch (· = b) w w' := by
  obtain ⟨c0, c1, c2, c3, f0, f1, f2, f3⟩ := h.cells
  obtain ⟨E, hE⟩ : ∃ E, 8 * (dr + l.length) = E := ⟨_, rfl⟩
  have hqE : (q : Int) ≤ E := by omega
  have hdq : (8 : Int) * dr ≤ q := by omega
  have hdb : (dr : Int) ≤ 1099511627776 := by omega
  have H := Lib.hid h
  have HE := Lib.hid hE
  clear h hE
  go_enter Try.func22, Try.ntmps22
  go_wp2_with fail
  refine (rend_any b v l dr sp p E w H.out hs HE.out).mono ?_
  rintro e w' ⟨rfl, m, rfl⟩
  go_wp2_with fail
  go_ret
  obtain ⟨d1, d2⟩ := (H.out.drewN m).at_ q h1 h2 (q : Int) rfl
  exact ⟨rfl, d1, (touch_drewN (· = b) w m).trans d2 (fun i hi => Or.inl hi)⟩
set_option maxHeartbeats 400000 in
theorem seek_no (b : Nat) (v : Value) (l : List UInt8) (dr sp p : Nat) (q : Int) (w : World) (h : IsReader w b v l dr sp p) (hs : dr + l.length ≤ 1099511627776) (h1 : q < 8 * (dr : Int) ∨ 8 * ((dr : Int) + (l.length : Int)) < q) :
    Calls Try.prog 22 #[.pointer (some ⟨b, 0, none⟩), .int .i64 q] w fun e w' => e = .returned (.int .i64 1) ∧ ∃ m, w' = w.drewN m := by
  obtain ⟨c0, c1, c2, c3, f0, f1, f2, f3⟩ := h.cells
  obtain ⟨E, hE⟩ : ∃ E, 8 * (dr + l.length) = E := ⟨_, rfl⟩
  have hdb : (dr : Int) ≤ 1099511627776 := by omega
  by_cases hlo : q < 8 * (dr : Int)
  · clear h hE h1
    go_enter Try.func22, Try.ntmps22
    go_wp2_with fail
    go_ret
    exact ⟨rfl, 0, rfl⟩
  · have hqE : (E : Int) < q := by omega
    have H := Lib.hid h
    have HE := Lib.hid hE
    clear h hE h1
    go_enter Try.func22, Try.ntmps22
    go_wp2_with fail
    refine (rend_any b v l dr sp p E w H.out hs HE.out).mono ?_
    rintro e w' ⟨rfl, m, rfl⟩
    go_wp2_with fail
    go_ret
    exact ⟨rfl, m, rfl⟩
end Go.Proofs.Ytfckghaigbmeaaa

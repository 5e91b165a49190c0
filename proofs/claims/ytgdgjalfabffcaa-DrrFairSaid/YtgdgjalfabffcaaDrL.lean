/-
  LAYER 30's STATEMENTS: acts of seven cells, one of them a row; DrrNil.
-/
import Derived.Test.YtgdgjalfabffcaaDrK
import Derived.Test.YtgdgjalfabffcaaOpen
namespace Go.Proofs.Ytgdgjalfabffcaa
open Go.ChangeShapes Go.WideShapes Go.ChangeAt Go.RowKit Go.Deep
set_option linter.unusedVariables false
set_option linter.unusedSimpArgs false
structure Act7 where
  K : Int
  T : Int
  J : Int
  B : Int
  U : Int
  L : Value
  S : Bool
  ls : List Int
def Act7.cells (o : Act7) : List Value := [.int .i64 o.K, .int .i64 o.T, .int .i64 o.J, .int .i64 o.B, .int .i64 o.U, o.L, .bool o.S]
structure Act7.Ok (w : World) (o : Act7) : Prop where
  t1 : -9223372036854775808 ≤ o.T ∧ o.T ≤ 9223372036854775807
  u1 : -9223372036854775808 ≤ o.U ∧ o.U ≤ 9223372036854775807
  left : IsInts w o.L o.ls
  lb : ∀ k, o.L.ownBlock = some k → 0 < o.ls.length → k < w.heap.size
  max : o.ls.length ≤ 9223372036854775807
theorem wf_i64' {q : Int} (h : (Lit.int .i64 q).wf = true) : -9223372036854775808 ≤ q ∧ q ≤ 9223372036854775807 := by
  simp only [Lit.wf, Bool.and_eq_true, decide_eq_true_eq] at h; exact h
section
variable {H : Type} {enc : TypeId × Value → H} {P : Program} {W : World}
theorem ints_of_sl {e : TypeId} {v : Value} (he : P.underlying e = some (.int .i64)) (hc : P.cellsOf e = 1) (h : Opn.CellOk enc P W (fun _ => true) (.sl e) v) :
    ∃ zs : List Int, IsInts W v zs ∧ (∀ k, v.ownBlock = some k → 0 < zs.length → k < W.heap.size) ∧ zs.length ≤ 9223372036854775807 := by
  rcases h with rfl | ⟨a, len, cap, n, rfl, hl, hm, hi⟩
  · exact ⟨[], IsInts.nil W, fun k hk => by simp [Value.ownBlock] at hk, by simp⟩
  · have key : ∀ i, i < len → ∃ q : Int, a.spot = none ∧ W.cell? ⟨a.block, a.off + i, none⟩ = some (.int .i64 q) := fun i hlt => by
      obtain ⟨cs, x, h1, h2⟩ := hi i hlt
      rw [hc] at h1
      obtain ⟨q, rfl, _, _⟩ := DataW.trod_int he h2
      obtain ⟨_, _, hcell⟩ := World.cells?_some h1
      have h3 := hcell 0 (by omega)
      have hsp : a.spot = none := by
        have h0 : ∃ cs x, W.cells? 0 (a.add (0 * P.cellsOf e)) (P.cellsOf e) = some cs ∧ DataW.trod enc P W 0 (fun _ => true) true n e cs = some x := hi 0 (by omega)
        obtain ⟨cs0, x0, g1, _⟩ := h0
        obtain ⟨_, hlen, gcell⟩ := World.cells?_some g1
        have g3 := gcell 0 (by rw [hc]; omega)
        rw [List.getElem?_eq_getElem (by rw [hlen, hc]; omega)] at g3
        have := World.cell?_spot g3
        simpa [Addr.add] using this
      refine ⟨q, hsp, ?_⟩
      obtain ⟨b, off, sp⟩ := a
      obtain rfl : sp = none := hsp
      rw [add_plain, Nat.mul_one, add_plain] at h3
      exact h3
    obtain ⟨zs, hzl, hz⟩ := Opn.choose_list (p := fun i (q : Int) => a.spot = none ∧ W.cell? ⟨a.block, a.off + i, none⟩ = some (.int .i64 q)) len key
    refine ⟨zs, ⟨some a, cap, by rw [hzl], fun i x hx => ?_⟩, fun k hk h0 => ?_, by rw [hzl]; simp only [maxLen] at hm; omega⟩
    · obtain ⟨hs, hcell⟩ := hz i x hx
      obtain ⟨b, off, sp⟩ := a
      obtain rfl : sp = none := hs
      exact ⟨b, off, rfl, hcell⟩
    · have hk' : a.block = k := by simpa [Value.ownBlock] using hk
      obtain ⟨_, hcell⟩ := hz 0 (zs[0]'h0) (List.getElem?_eq_getElem h0)
      have := World.block_lt_of_cell? W _ hcell
      rw [← hk']
      exact this
theorem act7_of {e : TypeId} (he : P.underlying e = some (.int .i64)) (hc : P.cellsOf e = 1) (vs : List Value) (hall : Opn.AllOk enc P W (fun _ => true) [.int .i64, .int .i64, .int .i64, .int .i64, .int .i64, .sl e, .bool] vs) :
    ∃ x : Act7, vs = x.cells ∧ x.Ok W := by
  have hl := hall.length
  obtain ⟨x0, x1, x2, x3, x4, x5, x6, rfl⟩ : ∃ x0 x1 x2 x3 x4 x5 x6, vs = [x0, x1, x2, x3, x4, x5, x6] := by
    rcases vs with _ | ⟨x0, _ | ⟨x1, _ | ⟨x2, _ | ⟨x3, _ | ⟨x4, _ | ⟨x5, _ | ⟨x6, _ | ⟨x7, r⟩⟩⟩⟩⟩⟩⟩⟩
    · cases hl
    · cases hl
    · cases hl
    · cases hl
    · cases hl
    · cases hl
    · cases hl
    · exact ⟨_, _, _, _, _, _, _, rfl⟩
    · simp at hl
  obtain ⟨⟨q0, e0, _⟩, ⟨q1, e1, h1⟩, ⟨q2, e2, _⟩, ⟨q3, e3, _⟩, ⟨q4, e4, h4⟩, h5, ⟨q6, e6⟩, _⟩ := hall
  obtain ⟨zs, a1, a2, a3⟩ := ints_of_sl he hc h5
  exact ⟨⟨q0, q1, q2, q3, q4, x5, q6, zs⟩, by rw [e0, e1, e2, e3, e4, e6]; rfl, wf_i64' h1, wf_i64' h4, a1, a2, a3⟩
def IsActs7 (w : World) (a : Option Addr) (len : Nat) (l : List Act7) : Prop := Opn.IsElems w a len 7 Act7.cells l ∧ (∀ x ∈ l, Act7.Ok w x) ∧ len ≤ maxLen
theorem open_acts7 {base : Nat} {t e e2 : TypeId} {v : Value} {d : DataW H} {p : List MemPlace}
    (ht : P.underlying t = some (.slice e)) (hk : Opn.kinds P 2 e = some [.int .i64, .int .i64, .int .i64, .int .i64, .int .i64, .sl e2, .bool]) (hm : P.cellsOf e = 7) (he : P.underlying e2 = some (.int .i64)) (hc : P.cellsOf e2 = 1)
    (hv : Value.okWide P W .any base t v) (h : DataW.Trod enc P W 0 (fun _ => true) true t v d p) : ∃ a len cap l, v = .slice a len cap ∧ IsActs7 W a len l :=
  Opn.open_elems 7 2 _ Act7.cells (Act7.Ok W) ht hk hm (by omega) (fun vs hall => act7_of he hc vs hall) hv h
theorem open_act7 {base : Nat} {t e2 : TypeId} {v : Value} {d : DataW H} {p : List MemPlace}
    (hk : Opn.kinds P 2 t = some [.int .i64, .int .i64, .int .i64, .int .i64, .int .i64, .sl e2, .bool]) (hu : (match P.underlying t with | some (.struct _) | some (.array _ _) => true | _ => false) = true) (he : P.underlying e2 = some (.int .i64)) (hc : P.cellsOf e2 = 1)
    (hv : Value.okWide P W .any base t v) (h : DataW.Trod enc P W 0 (fun _ => true) true t v d p) : ∃ o : Act7, v = .agg o.cells.toArray ∧ o.Ok W := by
  obtain ⟨cs, rfl, hall⟩ := Opn.open_flat 2 _ hk hu hv h
  obtain ⟨x, hx, hok⟩ := act7_of he hc _ hall
  exact ⟨x, by rw [← hx], hok⟩
end
set_option maxRecDepth 100000 in
set_option maxHeartbeats 8000000 in
theorem drrNil.main (o : Act7) (w : World) (hok : o.Ok w) : Calls Try.prog 10 #[.agg o.cells.toArray] w fun e w' => e = .returned (.bool true) ∧ Below w.heap.size w w' := by
  obtain ⟨K, T, J, B, U, L, S, ls⟩ := o
  obtain ⟨aL, cL, hL, _⟩ := hok.left
  dsimp only at hL
  clear hok
  obtain ⟨nL, hnL⟩ : ∃ nL, ls.length = nL := ⟨_, rfl⟩
  rw [hnL] at hL
  clear hnL
  subst hL
  show Calls Try.prog 10 #[.agg #[.int .i64 K, .int .i64 T, .int .i64 J, .int .i64 B, .int .i64 U, .slice aL nL cL, .bool S]] w _
  obtain ⟨P, hP⟩ : ∃ P, w.heap.size = P := ⟨_, rfl⟩
  obtain ⟨w1, hw1⟩ : ∃ w1, w.alloc (.cells #[.int .i64 K, .int .i64 T, .int .i64 J, .int .i64 B, .int .i64 U, .slice aL nL cL, .bool S] 54) = w1 := ⟨_, rfl⟩
  have hg1 : w1.heap[P]? = some (.cells #[.int .i64 K, .int .i64 T, .int .i64 J, .int .i64 B, .int .i64 U, .slice aL nL cL, .bool S] 54 (0, 0)) := by rw [← hw1, ← hP]; exact heap_alloc_new _ _
  have hb1 : Below w.heap.size w w1 := by rw [← hw1]; exact (Below.refl _ _).alloc (Nat.le_refl _) _
  have c3 : w1.cell? ⟨P, 3, none⟩ = some (.int .i64 B) := by rw [cell_of_row _ _ 3 _ _ _ hg1]; rfl
  have c5 : w1.cell? ⟨P, 5, none⟩ = some (.slice aL nL cL) := by rw [cell_of_row _ _ 5 _ _ _ hg1]; rfl
  have HN := Lib.hid (dnext_nil B (.slice aL nL cL) w1)
  have HB1 := Lib.hid hb1
  have HG1 := Lib.hid hg1
  have HP1 : Hid (P < w1.heap.size) := Lib.hid (by rw [← hw1, ← hP]; simp)
  clear hb1 hg1
  go_enter Try.func10, Try.ntmps10
  go_wp2_with fail
  refine HN.out.mono ?_
  rintro e w2 ⟨rfl, hb2⟩
  obtain ⟨z, hz⟩ : ∃ z : Int, z = 0 := ⟨0, rfl⟩
  rw [show trn 0 0 0 = #[.int .i64 z, .int .i64 z, .int .i64 z] from by rw [hz]; rfl]
  have hzb : (z == 0) = true := by rw [beq_iff_eq]; exact hz
  clear hz
  obtain ⟨G, hG⟩ : ∃ G, w2.heap.size = G := ⟨_, rfl⟩
  obtain ⟨w3, hw3⟩ : ∃ w3, w2.alloc (.cells #[.int .i64 z, .int .i64 z, .int .i64 z] 64) = w3 := ⟨_, rfl⟩
  have hg3 : w3.heap[G]? = some (.cells #[.int .i64 z, .int .i64 z, .int .i64 z] 64 (0, 0)) := by rw [← hw3, ← hG]; exact heap_alloc_new _ _
  have hb3 : Below w2.heap.size w2 w3 := by rw [← hw3]; exact (Below.refl _ _).alloc (Nat.le_refl _) _
  have hb23 : Below w1.heap.size w1 w3 := hb2.trans (hb3.mono hb2.size)
  have hg1 := (hb23.block P HP1.out).trans HG1.out
  have d1 : w3.cell? ⟨P, 1, none⟩ = some (.int .i64 T) := by rw [cell_of_row _ _ 1 _ _ _ hg1]; rfl
  have d2 : w3.cell? ⟨P, 2, none⟩ = some (.int .i64 J) := by rw [cell_of_row _ _ 2 _ _ _ hg1]; rfl
  have d4 : w3.cell? ⟨P, 4, none⟩ = some (.int .i64 U) := by rw [cell_of_row _ _ 4 _ _ _ hg1]; rfl
  have d6 : w3.cell? ⟨P, 6, none⟩ = some (.bool S) := by rw [cell_of_row _ _ 6 _ _ _ hg1]; rfl
  have b0 : w3.cell? ⟨G, 0, none⟩ = some (.int .i64 z) := by rw [cell_of_row _ _ 0 _ _ _ hg3]; rfl
  have b1 : w3.cell? ⟨G, 1, none⟩ = some (.int .i64 z) := by rw [cell_of_row _ _ 1 _ _ _ hg3]; rfl
  have b2 : w3.cell? ⟨G, 2, none⟩ = some (.int .i64 z) := by rw [cell_of_row _ _ 2 _ _ _ hg3]; rfl
  have HB3 := Lib.hid (HB1.out.trans (hb23.mono HB1.out.size))
  have A1 := Lib.hid (dadd_nil T J w3)
  have A2 := Lib.hid (drem_nil J w3)
  have A3 := Lib.hid (dspent_nil J U S w3)
  have A4 := Lib.hid (dcredit_nil T w3)
  have A5 := Lib.hid (dring_nil w3)
  have A6 := Lib.hid (djobs_nil T w3)
  have A7 := Lib.hid (two30_any w3)
  clear hg3 hb3 hb23 hg1 hb2
  go_wp2_with fail
  refine A1.out.mono ?_
  rintro e w4 ⟨rfl, hw4⟩
  obtain rfl := hw4.symm
  go_wp2_with fail
  refine A2.out.mono ?_
  rintro e w4 ⟨rfl, hw4⟩
  obtain rfl := hw4.symm
  go_wp2_with fail
  refine A3.out.mono ?_
  rintro e w4 ⟨rfl, hw4⟩
  obtain rfl := hw4.symm
  go_wp2_with fail
  refine A4.out.mono ?_
  rintro e w4 ⟨rfl, hw4⟩
  obtain rfl := hw4.symm
  go_wp2_with fail
  refine A5.out.mono ?_
  rintro e w4 ⟨rfl, hw4⟩
  obtain rfl := hw4.symm
  go_wp2_with fail
  refine A6.out.mono ?_
  rintro e w4 ⟨rfl, hw4⟩
  obtain rfl := hw4.symm
  go_wp2_with fail
  refine A7.out.mono ?_
  rintro e w4 ⟨rfl, hb4⟩
  have HB4 := Lib.hid (HB3.out.trans (hb4.mono HB3.out.size))
  clear hb4
  go_wp2_with fail
  go_ret
  exact ⟨rfl, HB4.out⟩
end Go.Proofs.Ytgdgjalfabffcaa

/-
  LAYER 29's STATEMENTS: acts; an act by the document.
-/
import Derived.Test.YtgdgjalfabffcaaQuF
import Derived.Test.YtgdgjalfabffcaaOpen
namespace Go.Proofs.Ytgdgjalfabffcaa
open Go.ChangeShapes Go.WideShapes Go.ChangeAt Go.RowKit Go.Deep
set_option linter.unusedVariables false
set_option linter.unusedSimpArgs false
structure Act2 where
  K : Int
  Z : Int
def Act2.cells (o : Act2) : List Value := [.int .i64 o.K, .int .i64 o.Z]
structure Act2.Ok (o : Act2) : Prop where
  t1 : -9223372036854775808 ≤ o.K
  t2 : o.K ≤ 9223372036854775807
  n1 : -9223372036854775808 ≤ o.Z
  n2 : o.Z ≤ 9223372036854775807
def IsActs2 (w : World) (a : Option Addr) (len : Nat) (l : List Act2) : Prop := Opn.IsElems w a len 2 Act2.cells l ∧ (∀ x ∈ l, Act2.Ok x) ∧ len ≤ maxLen
theorem IsActs2.at_ {w w' : World} {a : Option Addr} {len : Nat} {l : List Act2} (h : IsActs2 w a len l) (hb : Below w.heap.size w w') {k : Nat} (hk : k < len) : ∃ o b off, l[k]? = some o ∧ Act2.Ok o ∧ a = some ⟨b, off, none⟩ ∧ b < w.heap.size ∧
    w'.cell? ⟨b, off + k * 2, none⟩ = some (.int .i64 o.K) ∧ w'.cell? ⟨b, off + k * 2 + 1, none⟩ = some (.int .i64 o.Z) := by
  obtain ⟨⟨hl, he⟩, hok, _⟩ := h
  have hx : l[k]? = some (l[k]'(by omega)) := List.getElem?_eq_getElem _
  obtain ⟨b, off, ha, hlt, hc⟩ := he k _ hx
  refine ⟨_, b, off, hx, hok _ (List.getElem_mem _), ha, hlt, ?_, ?_⟩
  · exact (hb.cell (p := ⟨b, off + k * 2, none⟩) hlt).trans (hc 0 _ rfl)
  · exact (hb.cell (p := ⟨b, off + k * 2 + 1, none⟩) hlt).trans (hc 1 _ rfl)
theorem open_acts2 {H : Type} {enc : TypeId × Value → H} {P : Program} {W : World} {base : Nat} {t e : TypeId} {v : Value} {d : DataW H} {p : List MemPlace}
    (ht : P.underlying t = some (.slice e)) (hk : Opn.kinds P 2 e = some [.int .i64, .int .i64]) (hm : P.cellsOf e = 2)
    (hv : Value.okWide P W .any base t v) (h : DataW.Trod enc P W 0 (fun _ => true) true t v d p) : ∃ a len cap l, v = .slice a len cap ∧ IsActs2 W a len l := by
  refine Opn.open_elems 2 2 _ Act2.cells Act2.Ok ht hk hm (by omega) (fun vs hall => ?_) hv h
  have hl := hall.length
  obtain ⟨x0, x1, rfl⟩ : ∃ x0 x1, vs = [x0, x1] := by
    rcases vs with _ | ⟨x0, _ | ⟨x1, _ | ⟨x2, r⟩⟩⟩
    · cases hl
    · cases hl
    · exact ⟨_, _, rfl⟩
    · simp at hl
  obtain ⟨⟨q0, e0, h0⟩, ⟨q1, e1, h1⟩, _⟩ := hall
  have w0 : -9223372036854775808 ≤ q0 ∧ q0 ≤ 9223372036854775807 := by
    simp only [Lit.wf, Bool.and_eq_true, decide_eq_true_eq] at h0; exact h0
  have w1 : -9223372036854775808 ≤ q1 ∧ q1 ≤ 9223372036854775807 := by
    simp only [Lit.wf, Bool.and_eq_true, decide_eq_true_eq] at h1; exact h1
  exact ⟨⟨q0, q1⟩, by rw [e0, e1]; rfl, w0.1, w0.2, w1.1, w1.2⟩
/-! ### An act by the document -/
def st3 (a : Option Addr) (l c : Nat) (n e : Int) : Array Value := #[.slice a l c, .int .i64 n, .int .i64 e]
theorem st3_all (a : Option Addr) (l c : Nat) (n e : Int) : (st3 a l c n e).all (·.oneCell') = true := by kernel_rfl
theorem info_st : (Try.prog.info? 32).map (·.size) = some 3 := by kernel_rfl
/-- What an act tells, and which list is left. -/
def StepL (w w' : World) (v : Value) (zs : List Int) (n err : Int) (e : Ending) : Prop :=
  ∃ a l c, e = .returned (.agg (st3 a l c n err)) ∧ IsL w' (.slice a l c) zs ∧ Below w.heap.size w w' ∧ (∀ k, (Value.slice a l c).ownBlock = some k → v.ownBlock = some k ∨ w.heap.size ≤ k)
/-- The box of a step, stored. -/
theorem stbox (w : World) : ∃ w1, w.alloc (.cells #[.slice none 0 0, .int .i64 0, .int .i64 0] 32) = w1 ∧ w1.heap[w.heap.size]? = some (.cells (st3 none 0 0 0 0) 32 (0, 0)) ∧ Below w.heap.size w w1 :=
  ⟨_, rfl, heap_alloc_new _ _, (Below.refl _ _).alloc (Nat.le_refl _) _⟩
set_option maxHeartbeats 1000000 in
theorem rfirst29_any (v : Value) (zs : List Int) (w : World) (hI : IsL w v zs) : Calls Try.prog 39 #[v] w fun e w' => StepL w w' v zs (frontN zs) (frontE zs) e := by
  obtain ⟨w1, hw1, hx1, hb1⟩ := stbox w
  obtain ⟨G, hG⟩ : ∃ G, w.heap.size = G := ⟨_, rfl⟩
  have HX := Lib.hid hx1
  rw [hG] at HX
  cases zs with
  | nil =>
    have HR : Hid ((w1.setRow G (st3 none 0 0 0 6)).heap[G]? = some (.cells (st3 none 0 0 0 6) 32 (0, 0))) := Lib.hid (setRow_heap _ _ _ _ _ _ HX.out)
    have HE : Hid (StepL w (w1.setRow G (st3 none 0 0 0 6)) v [] 0 6 (.returned (.agg (st3 none 0 0 0 6)))) := Lib.hid ⟨_, _, _, rfl, IsL.nil _, below_setRow hb1 (by omega) _, fun k hk => by simp [Value.ownBlock] at hk⟩
    obtain ⟨a, cap, rfl⟩ := hI.shape
    clear hI hx1 hb1
    go_enter Try.func39, Try.ntmps39
    go_wp2_with (refine wpList_store_row rfl 32 _ _ rfl G (st3 none 0 0 0 6) rfl rfl 32 _ HX.out info_st rfl (st3_all _ _ _ _ _) ?_)
    refine bodyPost_ret (v := .agg (st3 none 0 0 0 6)) (results_cell_row rfl _ _ G 32 _ (0, 0) _ rfl HR.out Try.underlying32 rfl info_st) rfl ?_
    exact HE.out
  | cons x zs =>
    have HI1 := Lib.hid (hI.below hb1)
    rcases hI with ⟨_, h0⟩ | ⟨b, off, cap, rfl, hb, hc, h⟩
    · cases h0
    have c0 : w1.cell? ⟨b, off, none⟩ = some (.int .i64 x) := (hb1.cell hb).trans (h 0 x rfl)
    obtain ⟨M, hM⟩ : ∃ M, (x :: zs).length = M := ⟨_, rfl⟩
    have hM0 : 0 < M := by rw [← hM]; simp
    rw [hM] at HI1 ⊢
    have HR : Hid ((w1.setRow G (st3 (some ⟨b, off, none⟩) M cap x 0)).heap[G]? = some (.cells (st3 (some ⟨b, off, none⟩) M cap x 0) 32 (0, 0))) := Lib.hid (setRow_heap _ _ _ _ _ _ HX.out)
    have HE : Hid (StepL w (w1.setRow G (st3 (some ⟨b, off, none⟩) M cap x 0)) (.slice (some ⟨b, off, none⟩) M cap) (x :: zs) x 0 (.returned (.agg (st3 (some ⟨b, off, none⟩) M cap x 0)))) := Lib.hid ⟨_, _, _, rfl, HI1.out.same (by simp [World.setRow]) (fun k hk => setRow_other _ _ k _ (by
        have : b = k := by simpa [Value.ownBlock] using hk
        omega)), below_setRow hb1 (by omega) _, fun k hk => Or.inl hk⟩
    clear h hx1 hb1 hc hM HI1
    have h1 : (0 : Int) < (M : Int) := by omega
    have h2 : ((M : Int) == 0) = false := by rw [beq_eq_false_iff_ne]; omega
    go_enter Try.func39, Try.ntmps39
    go_wp2_with (refine wpList_store_row rfl 32 _ _ rfl G (st3 (some ⟨b, off, none⟩) M cap x 0) rfl rfl 32 _ HX.out info_st rfl (st3_all _ _ _ _ _) ?_)
    refine bodyPost_ret (v := .agg (st3 (some ⟨b, off, none⟩) M cap x 0)) (results_cell_row rfl _ _ G 32 _ (0, 0) _ rfl HR.out Try.underlying32 rfl info_st) rfl ?_
    exact HE.out
end Go.Proofs.Ytgdgjalfabffcaa

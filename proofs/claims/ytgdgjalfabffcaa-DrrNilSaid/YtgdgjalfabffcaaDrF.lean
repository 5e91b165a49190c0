/-
  LAYER 30 (package drr): a scheduler as the document has it; turn, Next.
-/
import Derived.Test.YtgdgjalfabffcaaDrE
namespace Go.Proofs.Ytgdgjalfabffcaa
open Go.RowKit
set_option linter.unusedVariables false
set_option linter.unusedSimpArgs false
def ringI (r : List Nat) : List Int := r.map (fun (t : Nat) => (t : Int))
theorem mem_ringI {r : List Nat} {t : Nat} : (t : Int) ∈ ringI r ↔ t ∈ r := by
  unfold ringI
  rw [List.mem_map]
  constructor
  · rintro ⟨a, ha, e⟩
    have : a = t := by omega
    rw [← this]; exact ha
  · exact fun h => ⟨t, h, rfl⟩
theorem ringI_rot (r : List Nat) : DrrM.rotated (ringI r) = ringI (DrrM.rotT r) := by
  cases r with
  | nil => rfl
  | cons x r => simp [ringI, DrrM.rotated, DrrM.rotT]
theorem ringI_without (r : List Nat) (t : Nat) : DrrM.without (ringI r) (t : Int) = ringI (DrrM.withoutT r t) := by
  unfold ringI DrrM.without DrrM.withoutT
  rw [List.filter_map]
  refine congrArg _ (List.filter_congr fun a _ => ?_)
  show ((a : Int) != (t : Int)) = (a != t)
  by_cases e : a = t
  · subst e; simp
  · have : (a : Int) ≠ (t : Int) := by omega
    rw [show ((a : Int) != (t : Int)) = true from by rw [bne_iff_ne]; exact this, show (a != t) = true from by rw [bne_iff_ne]; exact e]
theorem ringI_len (r : List Nat) : (ringI r).length = r.length := by simp [ringI]
def jobsF (d : DrrM.DS) (i : Nat) : List Int := if i < d.q.length then d.job i else ringI d.r
/-- Block s is the scheduler d. -/
structure IsDr (w : World) (B s g : Nat) (Q : Nat → Nat) (V : Nat → Value) (d : DrrM.DS) : Prop where
  dm : IsDm w B s g d.q.length Q V d.qua d.crd (jobsF d)
  inv : DrrM.Inv d
/-- What an act leaves. -/
structure DrStep (w w' : World) (B s g : Nat) (Q : Nat → Nat) (V : Nat → Value) (d : DrrM.DS) : Prop where
  dm : DStep w w' B s g d.q.length Q V d.qua d.crd (jobsF d)
  inv : DrrM.Inv d
theorem IsDr.far {w w' : World} {B s g : Nat} {Q : Nat → Nat} {V : Nat → Value} {d : DrrM.DS} (h : IsDr w B s g Q V d) (hb : Below w.heap.size w w') : IsDr w' B s g Q V d := ⟨h.dm.far hb, h.inv⟩
theorem IsDr.n16 {w : World} {B s g : Nat} {Q : Nat → Nat} {V : Nat → Value} {d : DrrM.DS} (h : IsDr w B s g Q V d) : 1 ≤ d.q.length ∧ d.q.length ≤ 16 := h.inv.qok.1
theorem DrStep.refl {w : World} {B s g : Nat} {Q : Nat → Nat} {V : Nat → Value} {d : DrrM.DS} (h : IsDr w B s g Q V d) : DrStep w w B s g Q V d := ⟨DStep.refl h.dm, h.inv⟩
theorem DrStep.below {w w' : World} {B s g : Nat} {Q : Nat → Nat} {V : Nat → Value} {d : DrrM.DS} (h : IsDr w B s g Q V d) (hb : Below w.heap.size w w') : DrStep w w' B s g Q V d := ⟨DStep.below h.dm hb, h.inv⟩
theorem DrStep.after {w w1 w' : World} {B s g : Nat} {Q : Nat → Nat} {V : Nat → Value} {d : DrrM.DS} (hb : Below w.heap.size w w1) (h : DrStep w1 w' B s g Q V d) : DrStep w w' B s g Q V d := ⟨DStep.comp (Touch.ofBelow hb) (fun k hk => Or.inl hk) h.dm, h.inv⟩
/-- What stands behind an act. -/
theorem DrStep.get {w w' : World} {B s g : Nat} {Q : Nat → Nat} {V : Nat → Value} {d : DrrM.DS} (h : DrStep w w' B s g Q V d) :
    ∃ V', IsDr w' B s g Q V' d ∧ Touch (dfoot s g d.q.length Q V) w w' ∧ (∀ k, dfoot s g d.q.length Q V' k → dfoot s g d.q.length Q V k ∨ w.heap.size ≤ k) := by
  obtain ⟨V', a1, a2, a3⟩ := h.dm
  exact ⟨V', ⟨a1, h.inv⟩, a2, a3⟩
theorem DrStep.comp {w w1 w2 : World} {B s g : Nat} {Q : Nat → Nat} {V V1 : Nat → Value} {d : DrrM.DS} (ht : Touch (dfoot s g d.q.length Q V) w w1) (hf : ∀ k, dfoot s g d.q.length Q V1 k → dfoot s g d.q.length Q V k ∨ w.heap.size ≤ k) (h2 : DrStep w1 w2 B s g Q V1 d) : DrStep w w2 B s g Q V d :=
  ⟨DStep.comp ht hf h2.dm, h2.inv⟩
theorem touch_setRow {S : Nat → Prop} {a b : World} (h : Touch S a b) {g : Nat} (hp : S g ∨ a.heap.size ≤ g) (cs : Array Value) : Touch S a (b.setRow g cs) :=
  ⟨h.os, h.tape, h.output, by simpa [World.setRow] using h.size, fun k hk hn => (setRow_other _ _ k _ (fun e => by rcases hp with h | h; exact hn (e ▸ h); omega)).trans (h.block k hk hn)⟩
section
variable {w w' : World} {B s g n : Nat} {Q : Nat → Nat} {V : Nat → Value} {q c : Nat → Int} {J : Nat → List Int}
def trn (a b c : Int) : Array Value := #[.int .i64 a, .int .i64 b, .int .i64 c]
theorem trn_all (a b c : Int) : (trn a b c).all (·.oneCell') = true := by kernel_rfl
theorem info_trn : (Try.prog.info? 64).map (·.size) = some 3 := by kernel_rfl
/-- What a turn leaves of the credits. -/
def turnC (q c : Nat → Int) (t : Nat) : Nat → Int := if c t = 0 then updF c t (q t) else c
set_option maxRecDepth 100000 in
set_option maxHeartbeats 4000000 in
theorem dturn_any (t : Nat) (most M x : Int) (l : List Int) (w : World) (h : IsDm w B s g n Q V q c J) (ht : t < n) (hj : J t = x :: l) (hM : min (turnC q c t t) most = M) : Calls Try.prog 56 #[.pointer (some ⟨s, 0, none⟩), .int .i64 (t : Int), .int .i64 most] w fun e w' =>
    e = .returned (.agg (trn (t : Int) x M)) ∧ DStep w w' B s g n Q V q (turnC q c t) J := by
  obtain ⟨w1, hw1⟩ : ∃ w1, w.alloc (.cells #[.int .i64 0, .int .i64 0, .int .i64 0] 64) = w1 := ⟨_, rfl⟩
  obtain ⟨P, hP⟩ : ∃ P, w.heap.size = P := ⟨_, rfl⟩
  have hx1 : w1.heap[P]? = some (.cells (trn 0 0 0) 64 (0, 0)) := by rw [← hw1, ← hP]; exact heap_alloc_new _ _
  have hb1 : Below w.heap.size w w1 := by rw [← hw1]; exact (Below.refl _ _).alloc (Nat.le_refl _) _
  have hs1 : w1.heap.size = P + 1 := by rw [← hw1, ← hP]; simp
  have h1 := h.far hb1
  have HPF : Hid (¬ dfoot s g n Q V P) := Lib.hid (fun hf => by have := (h.lt P hf).2; omega)
  have c0 := h1.cells.1
  obtain ⟨d0, d1, d2⟩ := h1.ten.cells ht
  have f2 := h1.ten.frozen (t * 3 + 2)
  have i0 : (0 : Int) ≤ (t : Int) := by omega
  have i1 : (t : Int) < (n : Int) := by omega
  have HT1 := Lib.hid (Touch.ofBelow (S := dfoot s g n Q V) hb1)
  have H1 := Lib.hid h1
  have HX1 := Lib.hid hx1
  clear hb1 h hx1
  by_cases hz : c t = 0
  · have hcz : (c t == 0) = true := by rw [beq_iff_eq]; exact hz
    have HCC : Hid (turnC q c t = updF c t (q t)) := Lib.hid (if_pos hz)
    rw [HCC.out, updF_same] at hM
    obtain ⟨w2, hw2⟩ : ∃ w2, w1.setCell ⟨g, t * 3 + 2, none⟩ (.int .i64 (q t)) = w2 := ⟨_, rfl⟩
    obtain ⟨V2, hm2, ht2, hf2⟩ := H1.out.setC ht (q t)
    rw [hw2] at hm2 ht2
    have HF2 := Lib.hid (qfront_any w2 (hm2.qs t (by omega)))
    rw [hj] at HF2
    obtain ⟨e0, e1, e2⟩ := hm2.ten.cells ht
    rw [updF_same] at e2
    have hx2 : w2.heap[P]? = some (.cells (trn 0 0 0) 64 (0, 0)) := (ht2.block P (by omega) HPF.out).trans HX1.out
    have HX2 := Lib.hid hx2
    have HR : Hid ((w2.setRow P (trn (t : Int) x M)).heap[P]? = some (.cells (trn (t : Int) x M) 64 (0, 0))) := Lib.hid (setRow_heap _ _ _ _ _ _ HX2.out)
    have HD : Hid (DStep w (w2.setRow P (trn (t : Int) x M)) B s g n Q V q (turnC q c t) J) := Lib.hid (by
      rw [HCC.out]
      have hs2 := ht2.size
      have hs1' := HT1.out.size
      refine ⟨V2, hm2.same (fun k hk => setRow_other _ _ k _ (fun e => ?_)), touch_setRow (HT1.out.trans ht2 (fun i hi => Or.inl hi)) (Or.inr (by omega)) _, fun k hk => (hf2 k hk).imp id (fun h => by omega)⟩
      rcases hf2 k hk with h3 | h3
      · exact HPF.out (e ▸ h3)
      · omega)
    clear hm2 ht2 hf2 hx2 HCC
    obtain ⟨y, hy⟩ : ∃ y, q t = y := ⟨_, rfl⟩
    rw [hy] at hM e1 e2 d1 hw2
    unfold ptrQ at d0 e0
    generalize Q t = qt at *
    generalize c t = z at *
    by_cases hlt : most < y
    · have hMm : M = most := by rw [← hM]; omega
      subst hMm
      go_enter Try.func56, Try.ntmps56
      go_wp2_with fail
      refine HF2.out.mono ?_
      rintro e w3 ⟨rfl, hw3⟩
      obtain rfl := hw3.symm
      rw [show frontN (x :: l) = x from rfl, show frontE (x :: l) = 0 from rfl]
      go_wp2_with (refine wpList_store_row rfl 64 _ _ rfl P (trn (t : Int) x M) rfl rfl 64 _ HX2.out info_trn rfl (trn_all _ _ _) ?_)
      refine bodyPost_ret (v := .agg (trn (t : Int) x M)) (results_cell_row rfl _ _ P 64 _ (0, 0) _ rfl HR.out Try.underlying64 rfl info_trn) rfl ?_
      exact ⟨rfl, HD.out⟩
    · have hMm : M = y := by rw [← hM]; omega
      subst hMm
      go_enter Try.func56, Try.ntmps56
      go_wp2_with fail
      refine HF2.out.mono ?_
      rintro e w3 ⟨rfl, hw3⟩
      obtain rfl := hw3.symm
      rw [show frontN (x :: l) = x from rfl, show frontE (x :: l) = 0 from rfl]
      go_wp2_with (refine wpList_store_row rfl 64 _ _ rfl P (trn (t : Int) x M) rfl rfl 64 _ HX2.out info_trn rfl (trn_all _ _ _) ?_)
      refine bodyPost_ret (v := .agg (trn (t : Int) x M)) (results_cell_row rfl _ _ P 64 _ (0, 0) _ rfl HR.out Try.underlying64 rfl info_trn) rfl ?_
      exact ⟨rfl, HD.out⟩
  · have hcz : (c t == 0) = false := by rw [beq_eq_false_iff_ne]; exact hz
    have HCC : Hid (turnC q c t = c) := Lib.hid (if_neg hz)
    rw [HCC.out] at hM
    have HF2 := Lib.hid (qfront_any w1 (H1.out.qs t (by omega)))
    rw [hj] at HF2
    have HR : Hid ((w1.setRow P (trn (t : Int) x M)).heap[P]? = some (.cells (trn (t : Int) x M) 64 (0, 0))) := Lib.hid (setRow_heap _ _ _ _ _ _ HX1.out)
    have HD : Hid (DStep w (w1.setRow P (trn (t : Int) x M)) B s g n Q V q (turnC q c t) J) := Lib.hid (by
      rw [HCC.out]
      exact ⟨V, H1.out.same (fun k hk => setRow_other _ _ k _ (fun e => HPF.out (e ▸ hk))), touch_setRow HT1.out (Or.inr (by omega)) _, fun k hk => Or.inl hk⟩)
    clear HCC
    unfold ptrQ at d0
    generalize Q t = qt at *
    generalize c t = z at *
    by_cases hlt : most < z
    · have hMm : M = most := by rw [← hM]; omega
      subst hMm
      go_enter Try.func56, Try.ntmps56
      go_wp2_with fail
      refine HF2.out.mono ?_
      rintro e w3 ⟨rfl, hw3⟩
      obtain rfl := hw3.symm
      rw [show frontN (x :: l) = x from rfl, show frontE (x :: l) = 0 from rfl]
      go_wp2_with (refine wpList_store_row rfl 64 _ _ rfl P (trn (t : Int) x M) rfl rfl 64 _ HX1.out info_trn rfl (trn_all _ _ _) ?_)
      refine bodyPost_ret (v := .agg (trn (t : Int) x M)) (results_cell_row rfl _ _ P 64 _ (0, 0) _ rfl HR.out Try.underlying64 rfl info_trn) rfl ?_
      exact ⟨rfl, HD.out⟩
    · have hMm : M = z := by rw [← hM]; omega
      subst hMm
      go_enter Try.func56, Try.ntmps56
      go_wp2_with fail
      refine HF2.out.mono ?_
      rintro e w3 ⟨rfl, hw3⟩
      obtain rfl := hw3.symm
      rw [show frontN (x :: l) = x from rfl, show frontE (x :: l) = 0 from rfl]
      go_wp2_with (refine wpList_store_row rfl 64 _ _ rfl P (trn (t : Int) x M) rfl rfl 64 _ HX1.out info_trn rfl (trn_all _ _ _) ?_)
      refine bodyPost_ret (v := .agg (trn (t : Int) x M)) (results_cell_row rfl _ _ P 64 _ (0, 0) _ rfl HR.out Try.underlying64 rfl info_trn) rfl ?_
      exact ⟨rfl, HD.out⟩
end
end Go.Proofs.Ytgdgjalfabffcaa

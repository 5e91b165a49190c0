/-
  THE WALKS OF LAYER 9's CODE (package lens): the least tree of two rows that wait.
-/
import Derived.Test.YtmlcdfimcabgkaaDoorLenA
namespace Go.Proofs.YtmlcdfimcabgkaaDoor
open Go.RowKit SymM HufM
set_option linter.unusedVariables false
theorem ints_inj {k : IntKind} {a b : Int} (h : a = b) : Ending.returned (.int k a) = .returned (.int k b) := by rw [h]
/-- Block b is an array of the N numbers d, of type t. -/
def ArrD (t : TypeId) (w : World) (b N : Nat) (d : Row) : Prop := w.heap[b]? = some (.cells (((List.range N).map d).map iv64).toArray t (0, 0))
theorem ArrD.cell {t : TypeId} {w : World} {g n : Nat} {d : Row} (h : ArrD t w g n d) {i : Nat} (hi : i < n) : w.cell? ⟨g, i, none⟩ = some (.int .i64 (d i)) ∧ w.frozen? ⟨g, i, none⟩ = false := by
  refine ⟨?_, frozen_of_row _ _ _ _ _ h⟩
  rw [cell_of_row _ _ _ _ _ _ h, List.getElem?_toArray, List.getElem?_map, List.getElem?_map, List.getElem?_range hi]
  rfl
theorem ArrD.set {t : TypeId} {w : World} {g n : Nat} {d : Row} (h : ArrD t w g n d) {i : Nat} (hi : i < n) (x : Int) : ArrD t (w.setCell ⟨g, i, none⟩ (.int .i64 x)) g n (fun k => if k = i then x else d k) := by
  have := heap_setCell_same w g i _ _ (.int .i64 x) h
  unfold ArrD
  rw [this]
  congr 2
  apply Array.toList_inj.1
  rw [Array.toList_setIfInBounds]
  apply List.ext_getElem
  · simp
  · intro j h1 h2
    rw [List.getElem_set]
    by_cases e : i = j
    · subst e; simp [iv64]
    · rw [if_neg e]
      have : ¬ j = i := fun h => e h.symm
      simp [this]
theorem ArrD.other {t : TypeId} {w w' : World} {g n : Nat} {d : Row} (h : ArrD t w g n d) {S : Nat → Prop} (ht : Touch S w w') (hS : ¬ S g) : ArrD t w' g n d :=
  (ht.block g (Array.getElem?_eq_some_iff.1 h).1 hS).trans h
theorem ArrD.lt {t : TypeId} {w : World} {g n : Nat} {d : Row} (h : ArrD t w g n d) : g < w.heap.size := (Array.getElem?_eq_some_iff.1 h).1
/-- A variable that a closure shares: block b holds the one number x. -/
def Box (w : World) (b : Nat) (x : Int) : Prop := w.heap[b]? = some (.cells #[.int .i64 x] 3 (0, 0))
theorem Box.cell {w : World} {b : Nat} {x : Int} (h : Box w b x) : w.cell? ⟨b, 0, none⟩ = some (.int .i64 x) ∧ w.frozen? ⟨b, 0, none⟩ = false := ⟨by rw [cell_of_row _ _ _ _ _ _ h]; rfl, frozen_of_row _ _ _ _ _ h⟩
theorem Box.set {w : World} {b : Nat} {x : Int} (h : Box w b x) (y : Int) : Box (w.setCell ⟨b, 0, none⟩ (.int .i64 y)) b y := by
  have := heap_setCell_same w b 0 _ _ (.int .i64 y) h
  unfold Box
  rw [this]
  rfl
theorem Box.other {w w' : World} {b : Nat} {x : Int} (h : Box w b x) {S : Nat → Prop} (ht : Touch S w w') (hS : ¬ S b) : Box w' b x := (ht.block b (Array.getElem?_eq_some_iff.1 h).1 hS).trans h
/-- Where join's variables lie. -/
structure At where
  W : Nat
  A : Nat
  nb : Nat
  ob : Nat
  sb : Nat
  jb : Nat
  xb : Nat
  g : Nat
/-- All of them apart. -/
def At.Apart (p : At) : Prop := [p.W, p.A, p.nb, p.ob, p.sb, p.jb, p.xb, p.g].Pairwise (· ≠ ·)
/-- The trees that wait: symbols from place S of the order on, joined ones from J up to K. -/
structure Queue (p : At) (n : Nat) (D wf ab : Row) (S J K : Nat) (w : World) : Prop where
  hW : ArrD 79 w p.W 515 wf
  hA : ArrD 79 w p.A 515 ab
  hn : Box w p.nb n
  ho : w.heap[p.ob]? = some (.cells #[.slice (some ⟨p.g, 0, none⟩) n n] 22 (0, 0))
  hs : Box w p.sb S
  hj : Box w p.jb J
  hx : Box w p.xb K
  hg : RowD w p.g n D
  apart : p.Apart
/-- What the closure is bound to. -/
def At.caps (p : At) : Array Value := #[.pointer (some ⟨p.jb, 0, none⟩), .pointer (some ⟨p.xb, 0, none⟩), .pointer (some ⟨p.sb, 0, none⟩), .pointer (some ⟨p.nb, 0, none⟩), .pointer (some ⟨p.W, 0, none⟩), .pointer (some ⟨p.ob, 0, none⟩)]
section
variable {p : At} {n : Nat} {D wf ab : Row} {S J K : Nat} {w : World}
theorem Queue.touch {w' : World} (h : Queue p n D wf ab S J K w) (ht : Touch (fun _ => False) w w') : Queue p n D wf ab S J K w' :=
  ⟨h.hW.other ht (fun h => h), h.hA.other ht (fun h => h), h.hn.other ht (fun h => h), (ht.block _ (Array.getElem?_eq_some_iff.1 h.ho).1 (fun h => h)).trans h.ho, h.hs.other ht (fun h => h), h.hj.other ht (fun h => h), h.hx.other ht (fun h => h), RowD.other h.hg ht (fun h => h), h.apart⟩
theorem Queue.drewN (h : Queue p n D wf ab S J K w) (k : Nat) : Queue p n D wf ab S J K (w.drewN k) := h.touch (touch_drewN _ _ _)
/-- What is kept where only block b turns. -/
theorem Queue.keep {b : Nat} {w' : World} (h : Queue p n D wf ab S J K w) (ht : Touch (· = b) w w') :
    (p.W ≠ b → ArrD 79 w' p.W 515 wf) ∧ (p.A ≠ b → ArrD 79 w' p.A 515 ab) ∧ (p.nb ≠ b → Box w' p.nb n) ∧ (p.ob ≠ b → w'.heap[p.ob]? = some (.cells #[.slice (some ⟨p.g, 0, none⟩) n n] 22 (0, 0))) ∧
    (p.sb ≠ b → Box w' p.sb S) ∧ (p.jb ≠ b → Box w' p.jb J) ∧ (p.xb ≠ b → Box w' p.xb K) ∧ (p.g ≠ b → RowD w' p.g n D) := by
  obtain ⟨hW, hA, hn, ho, hs, hj, hx, hg, hap⟩ := h
  refine ⟨fun e => hW.other ht e, fun e => hA.other ht e, fun e => hn.other ht e, fun e => ?_, fun e => hs.other ht e, fun e => hj.other ht e, fun e => hx.other ht e, fun e => RowD.other hg ht e⟩
  exact (ht.block p.ob (Array.getElem?_eq_some_iff.1 ho).1 e).trans ho
theorem At.Apart.all (ha : p.Apart) : (p.W ≠ p.A ∧ p.W ≠ p.nb ∧ p.W ≠ p.ob ∧ p.W ≠ p.sb ∧ p.W ≠ p.jb ∧ p.W ≠ p.xb ∧ p.W ≠ p.g) ∧ (p.A ≠ p.nb ∧ p.A ≠ p.ob ∧ p.A ≠ p.sb ∧ p.A ≠ p.jb ∧ p.A ≠ p.xb ∧ p.A ≠ p.g) ∧
    (p.nb ≠ p.ob ∧ p.nb ≠ p.sb ∧ p.nb ≠ p.jb ∧ p.nb ≠ p.xb ∧ p.nb ≠ p.g) ∧ (p.ob ≠ p.sb ∧ p.ob ≠ p.jb ∧ p.ob ≠ p.xb ∧ p.ob ≠ p.g) ∧ (p.sb ≠ p.jb ∧ p.sb ≠ p.xb ∧ p.sb ≠ p.g) ∧ (p.jb ≠ p.xb ∧ p.jb ≠ p.g) ∧ p.xb ≠ p.g := by
  simp only [At.Apart, List.pairwise_cons, List.mem_cons, List.not_mem_nil, or_false, forall_eq_or_imp, forall_eq] at ha
  obtain ⟨a1, a2, a3, a4, a5, a6, a7, _⟩ := ha
  exact ⟨a1, a2, a3, a4, a5, a6, a7⟩
theorem Queue.single (h : Queue p n D wf ab S J K w) (x : Nat) : Queue p n D wf ab x J K (w.setCell ⟨p.sb, 0, none⟩ (.int .i64 x)) := by
  obtain ⟨⟨a1, a2, a3, a4, a5, a6, a7⟩, ⟨b2, b3, b4, b5, b6, b7⟩, ⟨c3, c4, c5, c6, c7⟩, ⟨d4, d5, d6, d7⟩, ⟨e5, e6, e7⟩, ⟨f6, f7⟩, g7⟩ := h.apart.all
  have ht : Touch (· = p.sb) w (w.setCell ⟨p.sb, 0, none⟩ (.int .i64 x)) := touch_cell (Touch.refl _ w)
  obtain ⟨kW, kA, kn, ko, ks, kj, kx, kg⟩ := h.keep ht
  exact ⟨kW a4, kA b4, kn c4, ko d4, h.hs.set x, kj (Ne.symm e5), kx (Ne.symm e6), kg (Ne.symm e7), h.apart⟩
theorem Queue.joined (h : Queue p n D wf ab S J K w) (x : Nat) : Queue p n D wf ab S x K (w.setCell ⟨p.jb, 0, none⟩ (.int .i64 x)) := by
  obtain ⟨⟨a1, a2, a3, a4, a5, a6, a7⟩, ⟨b2, b3, b4, b5, b6, b7⟩, ⟨c3, c4, c5, c6, c7⟩, ⟨d4, d5, d6, d7⟩, ⟨e5, e6, e7⟩, ⟨f6, f7⟩, g7⟩ := h.apart.all
  have ht : Touch (· = p.jb) w (w.setCell ⟨p.jb, 0, none⟩ (.int .i64 x)) := touch_cell (Touch.refl _ w)
  obtain ⟨kW, kA, kn, ko, ks, kj, kx, kg⟩ := h.keep ht
  exact ⟨kW a5, kA b5, kn c5, ko d5, ks e5, h.hj.set x, kx (Ne.symm f6), kg (Ne.symm f7), h.apart⟩
theorem Queue.next (h : Queue p n D wf ab S J K w) (x : Nat) : Queue p n D wf ab S J x (w.setCell ⟨p.xb, 0, none⟩ (.int .i64 x)) := by
  obtain ⟨⟨a1, a2, a3, a4, a5, a6, a7⟩, ⟨b2, b3, b4, b5, b6, b7⟩, ⟨c3, c4, c5, c6, c7⟩, ⟨d4, d5, d6, d7⟩, ⟨e5, e6, e7⟩, ⟨f6, f7⟩, g7⟩ := h.apart.all
  have ht : Touch (· = p.xb) w (w.setCell ⟨p.xb, 0, none⟩ (.int .i64 x)) := touch_cell (Touch.refl _ w)
  obtain ⟨kW, kA, kn, ko, ks, kj, kx, kg⟩ := h.keep ht
  exact ⟨kW a6, kA b6, kn c6, ko d6, ks e6, kj f6, h.hx.set x, kg (Ne.symm g7), h.apart⟩
theorem Queue.weight (h : Queue p n D wf ab S J K w) {i : Nat} (hi : i < 515) (x : Int) : Queue p n D (fun k => if k = i then x else wf k) ab S J K (w.setCell ⟨p.W, i, none⟩ (.int .i64 x)) := by
  obtain ⟨⟨a1, a2, a3, a4, a5, a6, a7⟩, ⟨b2, b3, b4, b5, b6, b7⟩, ⟨c3, c4, c5, c6, c7⟩, ⟨d4, d5, d6, d7⟩, ⟨e5, e6, e7⟩, ⟨f6, f7⟩, g7⟩ := h.apart.all
  have ht : Touch (· = p.W) w (w.setCell ⟨p.W, i, none⟩ (.int .i64 x)) := touch_cell (Touch.refl _ w)
  obtain ⟨kW, kA, kn, ko, ks, kj, kx, kg⟩ := h.keep ht
  exact ⟨h.hW.set hi x, kA (Ne.symm a1), kn (Ne.symm a2), ko (Ne.symm a3), ks (Ne.symm a4), kj (Ne.symm a5), kx (Ne.symm a6), kg (Ne.symm a7), h.apart⟩
theorem Queue.above (h : Queue p n D wf ab S J K w) {i : Nat} (hi : i < 515) (x : Int) : Queue p n D wf (fun k => if k = i then x else ab k) S J K (w.setCell ⟨p.A, i, none⟩ (.int .i64 x)) := by
  obtain ⟨⟨a1, a2, a3, a4, a5, a6, a7⟩, ⟨b2, b3, b4, b5, b6, b7⟩, ⟨c3, c4, c5, c6, c7⟩, ⟨d4, d5, d6, d7⟩, ⟨e5, e6, e7⟩, ⟨f6, f7⟩, g7⟩ := h.apart.all
  have ht : Touch (· = p.A) w (w.setCell ⟨p.A, i, none⟩ (.int .i64 x)) := touch_cell (Touch.refl _ w)
  obtain ⟨kW, kA, kn, ko, ks, kj, kx, kg⟩ := h.keep ht
  exact ⟨kW a1, h.hA.set hi x, kn (Ne.symm b2), ko (Ne.symm b3), ks (Ne.symm b4), kj (Ne.symm b5), kx (Ne.symm b6), kg (Ne.symm b7), h.apart⟩
/-- What was taken: the symbol that stands next, or the joined tree that does. -/
def Took (p : At) (n : Nat) (D wf ab : Row) (S J K : Nat) (w w' : World) (t : Int) : Prop :=
  (((J = K ∧ S < n) ∨ (S < n ∧ wf (D S).toNat ≤ wf J)) ∧ t = D S ∧ Queue p n D wf ab (S + 1) J K w' ∧ Touch (· = p.sb) w w') ∨
  (¬ J = K ∧ ¬ (S < n ∧ wf (D S).toNat ≤ wf J) ∧ t = (J : Int) ∧ Queue p n D wf ab S (J + 1) K w' ∧ Touch (· = p.jb) w w')
set_option maxRecDepth 100000 in
set_option maxHeartbeats 2000000 in
theorem least_any (h : Queue p n D wf ab S J K w) (hn : n ≤ 258) (hS : S ≤ n) (hJK : J ≤ K) (hK : K ≤ 515) (hD : Rng n D) (h0 : J = K → S < n) :
    Calls Tryd.prog 67 p.caps w fun e w' => ∃ t, e = .returned (.int .i64 t) ∧ Took p n D wf ab S J K w w' t := by
  have HQ := Lib.hid h
  obtain ⟨cj, fj⟩ := h.hj.cell
  obtain ⟨cx, fx⟩ := h.hx.cell
  obtain ⟨cs, fs⟩ := h.hs.cell
  obtain ⟨cn, fn⟩ := h.hn.cell
  have co : w.cell? ⟨p.ob, 0, none⟩ = some (.slice (some ⟨p.g, 0, none⟩) n n) := by rw [cell_of_row _ _ _ _ _ _ h.ho]; rfl
  have take_s : Hid (∀ s : Int, S < n → D S = s → ((J = K ∧ S < n) ∨ (S < n ∧ wf (D S).toNat ≤ wf J)) → ∀ q, Took p n D wf ab S J K w ((w.drewN q).setCell ⟨p.sb, 0, none⟩ (.int .i64 ((S + 1 : Nat) : Int))) s) := Lib.hid (fun s h1 h2 h3 q =>
    Or.inl ⟨h3, h2.symm, (HQ.out.drewN q).single (S + 1), touch_cell (touch_drewN _ _ q)⟩)
  have take_j : Hid (¬ J = K → ¬ (S < n ∧ wf (D S).toNat ≤ wf J) → ∀ q, Took p n D wf ab S J K w ((w.drewN q).setCell ⟨p.jb, 0, none⟩ (.int .i64 ((J + 1 : Nat) : Int))) (J : Int)) := Lib.hid (fun h1 h2 q =>
    Or.inr ⟨h1, h2, rfl, (HQ.out.drewN q).joined (J + 1), touch_cell (touch_drewN _ _ q)⟩)
  have hcs : Hid (∀ q (x : Int), ((w.drewN q).setCell ⟨p.sb, 0, none⟩ (.int .i64 x)).cell? ⟨p.ob, 0, none⟩ = some (.slice (some ⟨p.g, 0, none⟩) n n) ∧ ((w.drewN q).setCell ⟨p.sb, 0, none⟩ (.int .i64 x)).cell? ⟨p.sb, 0, none⟩ = some (.int .i64 x)) := Lib.hid (fun q x => by
    have hap := HQ.out.apart.all
    have ht : Touch (· = p.sb) w ((w.drewN q).setCell ⟨p.sb, 0, none⟩ (.int .i64 x)) := touch_cell (touch_drewN _ _ q)
    refine ⟨?_, ((HQ.out.drewN q).hs.set x).cell.1⟩
    rw [cell_of_row _ _ _ _ _ _ ((ht.block _ (Array.getElem?_eq_some_iff.1 HQ.out.ho).1 (fun e => by have e' : p.ob = p.sb := e; omega)).trans HQ.out.ho)]
    rfl)
  have hrow : S < n → ∃ s : Nat, D S = (s : Int) ∧ s < n ∧ w.cell? ⟨p.g, S, none⟩ = some (.int .i64 (s : Int)) ∧ w.cell? ⟨p.W, s, none⟩ = some (.int .i64 (wf s)) := fun hSn => by
    obtain ⟨h1, h2⟩ := hD S hSn
    obtain ⟨s, hs⟩ := Int.eq_ofNat_of_zero_le h1
    have h3 := (h.hg.cell hSn).1
    rw [hs] at h3 h2
    exact ⟨s, hs, by omega, h3, (h.hW.cell (show s < 515 by omega)).1⟩
  have HR := Lib.hid hrow
  have HWC : Hid (∀ i, i < 515 → w.cell? ⟨p.W, i, none⟩ = some (.int .i64 (wf i))) := Lib.hid (fun i hi => (h.hW.cell hi).1)
  have hgo : Hid (∀ q x, S < n → ∀ s : Int, D S = s → ((w.drewN q).setCell ⟨p.sb, 0, none⟩ (.int .i64 x)).cell? ⟨p.g, S, none⟩ = some (.int .i64 s)) := Lib.hid (fun q x hSn s hs => by
    have hap := HQ.out.apart.all
    have ht : Touch (· = p.sb) w ((w.drewN q).setCell ⟨p.sb, 0, none⟩ (.int .i64 x)) := touch_cell (touch_drewN _ _ q)
    rw [← hs]
    exact (RowD.cell (RowD.other HQ.out.hg ht (fun e => by have e' : p.g = p.sb := e; omega)) hSn).1)
  have hcj : Hid (∀ q (x : Int), ((w.drewN q).setCell ⟨p.jb, 0, none⟩ (.int .i64 x)).cell? ⟨p.jb, 0, none⟩ = some (.int .i64 x)) := Lib.hid (fun q x => ((HQ.out.drewN q).hj.set x).cell.1)
  have hS1 : (S : Int) + 1 = ((S + 1 : Nat) : Int) := by omega
  have hJ1 : (J : Int) + 1 = ((J + 1 : Nat) : Int) := by omega
  have HS1 := Lib.hid hS1
  have HJ1 := Lib.hid hJ1
  have HH0 := Lib.hid h0
  clear h hrow hD h0 hS1 hJ1
  unfold At.caps
  have hSI : (S : Int) + 1 - 1 = (S : Int) := by omega
  have hJI : (J : Int) + 1 - 1 = (J : Int) := by omega
  by_cases e : J = K
  · have hSn := HH0.out e
    obtain ⟨s, hs1, hs2, c1, c2⟩ := HR.out hSn
    have HS := Lib.hid hs1
    have HSN := Lib.hid hSn
    have hje : ((J : Int) == (K : Int)) = true := by rw [beq_iff_eq]; omega
    have HE := Lib.hid e
    have hSn2 : (S : Int) < (n : Int) := by omega
    clear e hs1
    go_enter Tryd.func67, Tryd.ntmps67
    go_wp2_with fail
    go_quiet (fail)
    have k1 := fun q x => (hcs.out q x).1
    have k2 := fun q x => (hcs.out q x).2
    have k3 := fun q x => hgo.out q x HSN.out _ HS.out
    go_wp2_with fail
    go_ret
    refine ⟨_, rfl, ?_⟩
    have := HS1.out
    rw [this]
    exact take_s.out _ HSN.out HS.out (Or.inl ⟨HE.out, HSN.out⟩) _
  · have hje : ((J : Int) == (K : Int)) = false := by rw [beq_eq_false_iff_ne]; omega
    have HE := Lib.hid e
    have hJ515 : J < 515 := by omega
    have hJ5 : (J : Int) < 515 := by omega
    have c3 := HWC.out J hJ515
    clear e
    by_cases hSn : S < n
    · obtain ⟨s, hs1, hs2, c1, c2⟩ := HR.out hSn
      have HS := Lib.hid hs1
      have HSN := Lib.hid hSn
      have hSn2 : (S : Int) < (n : Int) := by omega
      have hs5 : (s : Int) < 515 := by omega
      obtain ⟨X, hX⟩ : ∃ X, wf s = X := ⟨_, rfl⟩
      obtain ⟨Y, hY⟩ : ∃ Y, wf J = Y := ⟨_, rfl⟩
      rw [hX] at c2
      rw [hY] at c3
      have HX := Lib.hid hX
      have HY := Lib.hid hY
      have HW : Hid (wf (D S).toNat = X) := Lib.hid (by rw [hs1, Int.toNat_natCast]; exact hX)
      clear hs1 hX hY
      by_cases hle : X ≤ Y
      · have HLE := Lib.hid hle
        go_enter Tryd.func67, Tryd.ntmps67
        go_wp2_with fail
        go_quiet (fail)
        have k1 := fun q x => (hcs.out q x).1
        have k2 := fun q x => (hcs.out q x).2
        have k3 := fun q x => hgo.out q x HSN.out _ HS.out
        go_wp2_with fail
        go_ret
        refine ⟨_, rfl, ?_⟩
        have := HS1.out
        rw [this]
        exact take_s.out _ HSN.out HS.out (Or.inr ⟨HSN.out, by rw [HW.out, HY.out]; exact HLE.out⟩) _
      · have HLE := Lib.hid hle
        have hle2 : decide (X ≤ Y) = false := by simp only [decide_eq_false_iff_not]; exact hle
        go_enter Tryd.func67, Tryd.ntmps67
        go_wp2_with fail
        go_quiet (fail)
        have k1 := fun q x => hcj.out q x
        go_wp2_with fail
        go_ret
        refine ⟨_, ints_inj (show _ = (J : Int) by omega), ?_⟩
        have := HJ1.out
        rw [this]
        exact take_j.out HE.out (fun h => absurd h.2 (by rw [HW.out, HY.out]; have := HLE.out; omega)) _
    · have hSn2 : decide ((S : Int) < (n : Int)) = false := by simp only [decide_eq_false_iff_not]; omega
      have HSN := Lib.hid hSn
      go_enter Tryd.func67, Tryd.ntmps67
      go_wp2_with fail
      go_quiet (fail)
      have k1 := fun q x => hcj.out q x
      go_wp2_with fail
      go_ret
      refine ⟨_, ints_inj (show _ = (J : Int) by omega), ?_⟩
      have := HJ1.out
      rw [this]
      exact take_j.out HE.out (fun h => HSN.out h.1) _
end
end Go.Proofs.YtmlcdfimcabgkaaDoor

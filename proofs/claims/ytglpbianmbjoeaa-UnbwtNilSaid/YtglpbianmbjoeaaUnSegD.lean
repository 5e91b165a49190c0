/-
  MERGED by seg.py out of: SrtO RowsRR RotG RotLawA RotLawB BwM SrtLawA SrtLawC BwLawA BwLawC UnLawA SrtLawB UnLawB Open UnActs UnLawC.
-/
import Derived.Test.YtglpbianmbjoeaaUnSegC
import Derived.Laws.EntriesVeiled
import Derived.WalkKit
import Derived.ProofKit
import Derived.OpenShut
import Derived.ShutString
import Derived.ChangeOld
import Derived.Below
import Derived.Lib.Hide
import Derived.Lib.SmallJoins
import Derived.Deep.Slices
namespace Go.Proofs.Ytglpbianmbjoeaa
open Go.RowKit BwtM SrtM PkM
set_option linter.unusedVariables false
set_option linter.unusedSimpArgs false
theorem pow_min {n : Nat} (hn : 2 ≤ n) (h2 : n ≤ 1099511627776) : n ≤ 2 ^ mostB n := by
  have e40 : (2 : Nat) ^ 40 = 1099511627776 := by decide
  have h := (bitLen_spec 40 (min n 1099511627776 - 1) (by omega) (by omega)).1
  have e : Lib.bitLen (min n 1099511627776 - 1) = mostB n := rfl
  rw [e] at h
  omega
theorem StepsOf.most {T : List UInt8} {R : Nat} (h : StepsOf T R) (hn : T.length ≤ 1024) : R ≤ mostN T.length ∧ R ≤ 500000 := by
  have e10 : (2 : Nat) ^ 10 = 1024 := by decide
  have h10 : R ≤ T.length * (4 + 3 * 10) * (10 + 2) := h.le (by rw [e10]; exact hn)
  have hR : R ≤ 500000 := by omega
  refine ⟨?_, hR⟩
  rcases h with ⟨h1, rfl⟩ | ⟨h1, hm⟩
  · exact Nat.zero_le _
  · have := StepsOf.le (Or.inr ⟨h1, hm⟩ : StepsOf T R) (pow_min h1 (by omega))
    unfold mostN
    rw [if_neg (by omega), Nat.min_eq_left (by omega : T.length ≤ 1099511627776), ← Nat.mul_assoc]
    omega
theorem unlike_min {T : List UInt8} {H : Nat} : Unlike T (min H T.length) ↔ Unlike T H := by
  rcases Nat.le_total H T.length with c | c
  · rw [Nat.min_eq_left c]
  · rw [Nat.min_eq_right c]
    constructor
    · intro h i k hi hk hne e
      exact h i k hi hk hne (e.mono c)
    · intro h i k hi hk hne e
      exact h i k hi hk hne (eqH_up e (Nat.le_refl _))
theorem boolS_of (p : Prop) : ∃ r : Bool, r = true ↔ p := by
  by_cases h : p
  · exact ⟨true, fun _ => h, fun _ => rfl⟩
  · exact ⟨false, fun e => (by cases e), fun e => absurd e h⟩
section
variable {B : Nat} {b n : Nat} {Z : List Nat}
end
end Go.Proofs.Ytglpbianmbjoeaa
namespace Go.Proofs.Ytglpbianmbjoeaa
open Go.RowKit
set_option linter.unusedVariables false
theorem info_slice : (Try.prog.info? 27).map (fun i => (i.zero, i.size, i.bytes)) = some (some (.slice none 0 0), 1, 24) := by kernel_rfl
/-- v is a row of rows, each in blocks below bn, the call's own. -/
def OwnRR (W : World) (B bn : Nat) (v : Value) (gs : List (List Int)) : Prop :=
  B ≤ bn ∧ bn ≤ W.heap.size ∧ (∀ k, v.ownBlock = some k → k < bn) ∧ ∃ vs : List Value, vs.length = gs.length ∧ W.ownsRow B 27 1 v gs.length vs ∧
    ∀ (i : Nat) (u : Value), vs[i]? = some u → ∃ g, gs[i]? = some g ∧ OwnI W 0 u g ∧ ∀ k, u.ownBlock = some k → k < bn ∧ v.ownBlock ≠ some k
theorem OwnRR.nil (W : World) (B : Nat) (hB : B ≤ W.heap.size) : OwnRR W B B (.slice none 0 0) [] :=
  ⟨Nat.le_refl _, hB, fun k h => by simp [Value.ownBlock] at h, [], rfl, World.ownsRow_nil _ _ _ _, fun i u h => by simp at h⟩
theorem OwnRR.below {W W' : World} {B bn : Nat} {v : Value} {gs : List (List Int)} (h : OwnRR W B bn v gs) (hb : Below bn W W') : OwnRR W' B bn v gs := by
  obtain ⟨h1, h2, h3, vs, h4, h5, h6⟩ := h
  refine ⟨h1, Nat.le_trans h2 hb.size, h3, vs, h4, ownsRow_other h5 (fun k hk => hb.block k (h3 k hk)), fun i u hu => ?_⟩
  obtain ⟨g, hg, ho, hk⟩ := h6 i u hu
  exact ⟨g, hg, ho.same (fun k hkk => hb.block k (hk k hkk).1), hk⟩
/-- v reads as a row of rows. -/
def IsRR (w : World) (v : Value) (gs : List (List Int)) : Prop := ∃ a cap, v = .slice a gs.length cap ∧ ∀ (i : Nat) (g : List Int), gs[i]? = some g → ∃ b off u, a = some ⟨b, off, none⟩ ∧ w.cell? ⟨b, off + i, none⟩ = some u ∧ IsInts w u g
theorem IsRR.below {w w' : World} {v : Value} {gs : List (List Int)} (h : IsRR w v gs) (hb : Below w.heap.size w w') : IsRR w' v gs := by
  obtain ⟨a, cap, hv, hc⟩ := h
  refine ⟨a, cap, hv, fun i g hg => ?_⟩
  obtain ⟨b, off, u, ha, hcell, hi⟩ := hc i g hg
  exact ⟨b, off, u, ha, (hb.cell (cell_lt hcell)).trans hcell, hi.below hb⟩
theorem OwnRR.rr {W : World} {B bn : Nat} {v : Value} {gs : List (List Int)} (h : OwnRR W B bn v gs) : IsRR W v gs := by
  obtain ⟨h1, h2, h3, vs, h4, h5, h6⟩ := h
  rcases h5.2 with ⟨rfl, h0⟩ | ⟨g, cap, cur, rfl, _, hg, _⟩
  · obtain rfl : gs = [] := List.eq_nil_of_length_eq_zero h0
    exact ⟨none, 0, rfl, fun i g hg => by simp at hg⟩
  · refine ⟨_, cap, rfl, fun i x hx => ?_⟩
    have hi := (List.getElem?_eq_some_iff.1 hx).1
    have hvi : vs[i]? = some (vs[i]'(by omega)) := List.getElem?_eq_getElem (by omega)
    obtain ⟨g', hg', ho, _⟩ := h6 i _ hvi
    rw [hx] at hg'
    cases hg'
    exact ⟨g, 0, _, rfl, by rw [Nat.zero_add, h5.cellAt i (by omega), hvi], ho.ints⟩
/-! ### Rows that lie anywhere below bn, but not in the outer row's own block -/
def OwnRI (W : World) (B bn : Nat) (v : Value) (gs : List (List Int)) : Prop :=
  B ≤ bn ∧ bn ≤ W.heap.size ∧ (∀ k, v.ownBlock = some k → k < bn) ∧ ∃ vs : List Value, vs.length = gs.length ∧ W.ownsRow B 27 1 v gs.length vs ∧
    ∀ (i : Nat) (u : Value), vs[i]? = some u → ∃ g, gs[i]? = some g ∧ IsInts W u g ∧ ∀ k, u.ownBlock = some k → B ≤ k ∧ k < bn ∧ v.ownBlock ≠ some k
theorem OwnRI.nil (W : World) (B : Nat) (hB : B ≤ W.heap.size) : OwnRI W B B (.slice none 0 0) [] :=
  ⟨Nat.le_refl _, hB, fun k h => by simp [Value.ownBlock] at h, [], rfl, World.ownsRow_nil _ _ _ _, fun i u h => by simp at h⟩
theorem IsInts.same {w w' : World} {v : Value} {zs : List Int} (h : IsInts w v zs) (he : ∀ k, v.ownBlock = some k → w'.heap[k]? = w.heap[k]?) : IsInts w' v zs := by
  obtain ⟨a, cap, rfl, hc⟩ := h
  refine ⟨a, cap, rfl, fun i x hx => ?_⟩
  obtain ⟨b, off, ha, hb⟩ := hc i x hx
  refine ⟨b, off, ha, ?_⟩
  rw [World.cell?_of_block (w := w) (a := ⟨b, off + i, none⟩) (he b (by rw [ha]; rfl))]
  exact hb
theorem OwnRI.below {W W' : World} {B bn : Nat} {v : Value} {gs : List (List Int)} (h : OwnRI W B bn v gs) (hb : Below bn W W') : OwnRI W' B bn v gs := by
  obtain ⟨h1, h2, h3, vs, h4, h5, h6⟩ := h
  refine ⟨h1, Nat.le_trans h2 hb.size, h3, vs, h4, ownsRow_other h5 (fun k hk => hb.block k (h3 k hk)), fun i u hu => ?_⟩
  obtain ⟨g, hg, ho, hk⟩ := h6 i u hu
  exact ⟨g, hg, ho.same (fun k hkk => hb.block k (hk k hkk).2.1), hk⟩
theorem OwnRI.same {W W' : World} {B bn : Nat} {v : Value} {gs : List (List Int)} (h : OwnRI W B bn v gs) (he : ∀ k, B ≤ k → k < bn → W'.heap[k]? = W.heap[k]?) (hs : W.heap.size ≤ W'.heap.size) : OwnRI W' B bn v gs := by
  obtain ⟨h1, h2, h3, vs, h4, h5, h6⟩ := h
  refine ⟨h1, Nat.le_trans h2 hs, h3, vs, h4, ownsRow_other h5 (fun k hk => he k (World.ownsRow.lt h5 k hk).1 (h3 k hk)), fun i u hu => ?_⟩
  obtain ⟨g, hg, ho, hk⟩ := h6 i u hu
  exact ⟨g, hg, ho.same (fun k hkk => he k (hk k hkk).1 (hk k hkk).2.1), hk⟩
theorem OwnRI.up {W : World} {B bn b2 : Nat} {v : Value} {gs : List (List Int)} (h : OwnRI W B bn v gs) (h1 : bn ≤ b2) (h2 : b2 ≤ W.heap.size) : OwnRI W B b2 v gs := by
  obtain ⟨k1, k2, k3, vs, k4, k5, k6⟩ := h
  refine ⟨Nat.le_trans k1 h1, h2, fun k hk => Nat.lt_of_lt_of_le (k3 k hk) h1, vs, k4, k5, fun i u hu => ?_⟩
  obtain ⟨g, hg, ho, hk⟩ := k6 i u hu
  exact ⟨g, hg, ho, fun k hkk => ⟨(hk k hkk).1, Nat.lt_of_lt_of_le (hk k hkk).2.1 h1, (hk k hkk).2.2⟩⟩
theorem OwnRI.rr {W : World} {B bn : Nat} {v : Value} {gs : List (List Int)} (h : OwnRI W B bn v gs) : IsRR W v gs := by
  obtain ⟨h1, h2, h3, vs, h4, h5, h6⟩ := h
  rcases h5.2 with ⟨rfl, h0⟩ | ⟨g, cap, cur, rfl, _, hg, _⟩
  · obtain rfl : gs = [] := List.eq_nil_of_length_eq_zero h0
    exact ⟨none, 0, rfl, fun i g hg => by simp at hg⟩
  · refine ⟨_, cap, rfl, fun i x hx => ?_⟩
    have hi := (List.getElem?_eq_some_iff.1 hx).1
    have hvi : vs[i]? = some (vs[i]'(by omega)) := List.getElem?_eq_getElem (by omega)
    obtain ⟨g', hg', ho, _⟩ := h6 i _ hvi
    rw [hx] at hg'
    cases hg'
    exact ⟨g, 0, _, rfl, by rw [Nat.zero_add, h5.cellAt i (by omega), hvi], ho⟩
theorem OwnRI.slice {W : World} {B bn : Nat} {v : Value} {gs : List (List Int)} (h : OwnRI W B bn v gs) : ∃ a cap, v = .slice a gs.length cap := by
  obtain ⟨a, cap, hv, _⟩ := h.rr
  exact ⟨a, cap, hv⟩
theorem OwnRI.lt {W : World} {B bn : Nat} {v : Value} {gs : List (List Int)} (h : OwnRI W B bn v gs) : ∀ k, v.ownBlock = some k → B ≤ k ∧ k < bn := by
  obtain ⟨h1, h2, h3, vs, h4, h5, h6⟩ := h
  exact fun k hk => ⟨(World.ownsRow.lt h5 k hk).1, h3 k hk⟩
end Go.Proofs.Ytglpbianmbjoeaa
namespace Go.Proofs.Ytglpbianmbjoeaa
open Go.RowKit BwtM PkM
set_option linter.unusedVariables false
theorem one_cell {w : World} {cs : Array Value} {t : TypeId} : ∀ {v : Value}, cs = #[v] → (w.alloc (.cells cs t)).cell? ⟨w.heap.size, 0, none⟩ = some v := by
  rintro v rfl
  rw [cell_of_row _ _ 0 _ _ _ (heap_alloc_new _ _)]
  rfl
theorem alloc_size (w : World) (o : Obj) : (w.alloc o).heap.size = w.heap.size + 1 := by show (w.heap.push _).size = _; simp
/-- Places that stand in rows as they may are the sorted ones. -/
theorem sorted_iff {T : List UInt8} {n p : Nat} {P : List Nat} {L : List Int} (hT : T.length = n) (hp : PerP T n p) (hK : RkP n P L) (hl : P.length = n) :
    (∀ j, j + 1 < n → Follow T (rk L) p (n / p) (P.getD j 0) (P.getD (j + 1) 0)) ↔ IsSorted T P := by
  have hP : P.Perm (List.range T.length) := by rw [hT]; exact hK.perm hl
  rw [sorted_getD hP]
  by_cases h0 : n = 0
  · subst h0
    exact ⟨fun _ j k _ h => by omega, fun _ j h => by omega⟩
  · have hpp := hp.2 (by omega)
    have hc : T.length = p * (n / p) := by rw [hT, Nat.mul_div_cancel' (by rw [← hT]; exact hpp.2.1)]
    have hc0 : 0 < n / p := Nat.div_pos (Nat.le_of_dvd (by omega) (by rw [← hT]; exact hpp.2.1)) hpp.1
    have hR : Ranks T.length (fun j => P.getD j 0) (rk L) := by rw [hT]; exact hK.ranks hl
    constructor
    · intro h
      exact sorted_follow (f := fun j => P.getD j 0) hpp hc hc0 hR (fun j hj => h j (by omega))
    · intro h j hj
      exact follow_sorted (f := fun j => P.getD j 0) (by omega) hpp hc hc0 hR h j (by omega)
/-- Is a row that of the sorted places? -/
def SortsP (T : List UInt8) (zs : List Int) : Prop := ∃ P, IsSorted T P ∧ zs = toI P
end Go.Proofs.Ytglpbianmbjoeaa
namespace Go.Proofs.Ytglpbianmbjoeaa
open Go.RowKit BwtM PkM
set_option linter.unusedVariables false
def aheadB (T : List UInt8) (i k : Nat) : Bool := Op.bytesLess (rot T i) (rot T k) || (rot T i == rot T k && decide (i < k))
theorem aheadB_iff (T : List UInt8) (i k : Nat) : aheadB T i k = true ↔ Ahead T i k := by
  unfold aheadB Ahead
  rw [Bool.or_eq_true, bytesLess_iff, Bool.and_eq_true, beq_iff_eq, decide_eq_true_eq]
def banT : ByteArray := ⟨#[98, 97, 110, 97, 110, 97]⟩
def abT : ByteArray := ⟨#[97, 98, 97, 98]⟩
theorem isSorted_of {T : List UInt8} {P : List Nat} (h1 : P.Perm (List.range T.length)) (h2 : P.Pairwise (fun i k => aheadB T i k = true)) : IsSorted T P := ⟨h1, h2.imp (fun h => (aheadB_iff _ _ _).1 h)⟩
theorem ban_sorted : IsSorted [98, 97, 110, 97, 110, 97] [5, 3, 1, 0, 4, 2] := isSorted_of (by decide) (by decide)
theorem ab_sorted : IsSorted [97, 98, 97, 98] [0, 2, 1, 3] := isSorted_of (by decide) (by decide)
theorem ab_period : IsPeriod [97, 98, 97, 98] 2 := ⟨by decide, by decide, by decide, fun q h1 h2 h3 => by
  rcases (by omega : q = 1 ∨ 2 ≤ q) with rfl | h
  · exact absurd h3 (by decide)
  · exact h⟩
theorem ban_least : IsLeast [98, 97, 110, 97, 110, 97] 5 := ⟨by decide, fun j hj h => by
  have h2 : ∀ j, j < 6 → aheadB [98, 97, 110, 97, 110, 97] j 5 = false := by decide
  have h3 := h2 j hj
  rw [(aheadB_iff _ _ _).2 h] at h3
  cases h3⟩
theorem ints_lits (w : World) (zs : List Int) (N : Nat) (hN : N = zs.length) : IsInts (w.alloc (.cells (zs.map iv64).toArray 3)) (.slice (some ⟨w.heap.size, 0, none⟩) N N) zs :=
  ints_of_row (rest := []) (t := 3) (by rw [List.append_nil]; exact heap_alloc_new _ _) hN
/-- What two rotations as texts are, by what Compare tells. -/
theorem isCmp_texts {s : ByteArray} {i k : Nat} {c : Int} (hi : i < s.size) (hk : k < s.size) (h : IsCmp s.data.toList i k c) :
    (c = -1 ∧ Op.bytesLess (rotT s i).toList (rotT s k).toList = true ∧ ((rotT s i).toList == (rotT s k).toList) = false) ∨
    (c = 0 ∧ Op.bytesLess (rotT s i).toList (rotT s k).toList = false ∧ ((rotT s i).toList == (rotT s k).toList) = true) ∨
    (c = 1 ∧ Op.bytesLess (rotT s i).toList (rotT s k).toList = false ∧ ((rotT s i).toList == (rotT s k).toList) = false) := by
  have hil : i ≤ s.data.toList.length := by rw [txt_len]; omega
  have hkl : k ≤ s.data.toList.length := by rw [txt_len]; omega
  have hbl := bl_rot s i k
  have heq := fun r h => list_eq_test (rotT s i) (rotT s k) r h
  rw [rotT_eq] at heq
  rw [← ltH_rot hil hkl] at hbl
  rw [← eqH_rot hil hkl] at heq
  rcases h with ⟨rfl, h⟩ | ⟨rfl, h⟩ | ⟨rfl, h⟩
  · exact Or.inl ⟨rfl, hbl.2 h, heq false ⟨fun e => (by cases e), fun e => absurd e h.noteq⟩⟩
  · exact Or.inr (Or.inl ⟨rfl, by rw [Bool.eq_false_iff, Ne, hbl]; exact fun g => g.noteq h, heq true ⟨fun _ => h, fun _ => rfl⟩⟩)
  · exact Or.inr (Or.inr ⟨rfl, by rw [Bool.eq_false_iff, Ne, hbl]; exact fun g => g.asym h, heq false ⟨fun e => (by cases e), fun e => absurd e.symm h.noteq⟩⟩)
theorem bool_of (p : Prop) : ∃ r : Bool, r = true ↔ p := by
  by_cases h : p
  · exact ⟨true, fun _ => h, fun _ => rfl⟩
  · exact ⟨false, fun e => (by cases e), fun e => absurd e h⟩
end Go.Proofs.Ytglpbianmbjoeaa
namespace Go.Proofs.Ytglpbianmbjoeaa
open Go.RowKit BwtM PkM
set_option linter.unusedVariables false
theorem no_bytes (s : ByteArray) (h : s.size = 0) : s = ByteArray.empty := by
  apply ByteArray.ext
  apply Array.toList_inj.1
  have h2 := txt_len s
  rw [h] at h2
  rw [List.eq_nil_of_length_eq_zero h2]
  rfl
theorem some_bytes (s : ByteArray) (h : 0 < s.size) : s.toList.isEmpty = false := by
  rw [ByteArray.toList_eq]
  have h2 := txt_len s
  cases hl : s.data.toList with
  | nil => rw [hl] at h2; simp at h2; omega
  | cons a t => rfl
theorem sorts_iff (s : ByteArray) (zs : List Int) : SortsP s.data.toList zs ↔ zs = toI (sortP s.data.toList s.size) := by
  have h := sortP_is s.data.toList
  rw [txt_len] at h
  constructor
  · rintro ⟨P, hP, rfl⟩
    rw [hP.same h]
  · rintro rfl
    exact ⟨_, h, rfl⟩
theorem alike_cmp {T : List UInt8} {i k p : Nat} {c : Int} (hi : i < T.length) (hk : k < T.length) (hp : IsPeriod T p) (h : IsCmp T i k c) : c = 0 ↔ ((i : Int) - (k : Int)).tmod (p : Int) = 0 := by
  have h2 : c = 0 ↔ eqH T T.length i k := by
    rcases h with ⟨rfl, h⟩ | ⟨rfl, h⟩ | ⟨rfl, h⟩
    · exact ⟨fun e => absurd e (by decide), fun e => absurd e h.noteq⟩
    · exact ⟨fun _ => h, fun _ => rfl⟩
    · exact ⟨fun e => absurd e (by decide), fun e => absurd e.symm h.noteq⟩
  rw [h2, eqH_rot (by omega) (by omega), alike hp hi hk, ← Int.dvd_iff_emod_eq_zero, Int.dvd_iff_tmod_eq_zero]
end Go.Proofs.Ytglpbianmbjoeaa
namespace Go.Proofs.Ytglpbianmbjoeaa
open Go.RowKit BwtM SrtM PkM
set_option linter.unusedVariables false
set_option linter.unusedSimpArgs false
/-- The byte just ahead of a place, going round. -/
def lastB (T : List UInt8) (p : Nat) : UInt8 := T.getD ((if p = 0 then T.length else p) - 1) 0
theorem lastB_rot {T : List UInt8} {p : Nat} (hp : p < T.length) : lastB T p = (rot T p).getLastD 0 := by
  have hl := rot_len T p (Nat.le_of_lt hp)
  have h1 : (rot T p).getLastD 0 = (rot T p).getD (T.length - 1) 0 := by
    rw [List.getLastD_eq_getLast?, List.getLast?_eq_getElem?, hl, List.getD_eq_getElem?_getD]
  rw [h1]
  apply UInt8.toNat.inj
  rw [rot_getD T (Nat.le_of_lt hp) (by omega)]
  unfold lastB
  by_cases h0 : p = 0
  · rw [if_pos h0, h0, Nat.zero_add, bt_in T (by omega)]
  · rw [if_neg h0, bt_on T (by omega) (by omega), show p + (T.length - 1) - T.length = p - 1 by omega]
/-! ### The turner -/
structure TuF (F : Nat → Value) (s : ByteArray) (sp : Value) (held : Nat) (ov vw : Value) (og st : Nat) : Prop where
  f0 : F 0 = .string s
  f1 : F 1 = sp
  f2 : F 2 = .int .i64 (held : Int)
  f3 : F 3 = ov
  f4 : F 4 = vw
  f5 : F 5 = .int .i64 (og : Int)
  f6 : F 6 = .int .i64 (st : Int)
section
variable {B : Nat} {w w' : World} {t : Nat} {s : ByteArray} {sp ov vw : Value} {held og st : Nat} {zs : List Int} {l : List UInt8}
end
/-- How the row of places may stand. -/
def OrdV (ov : Value) : Prop := ov = .slice none 0 0 ∨ ∃ bo off n cap, ov = .slice (some ⟨bo, off, none⟩) n cap ∧ n ≤ cap ∧ cap ≤ 9223372036854775807
section
variable {B : Nat} {w w' : World} {t : Nat} {s : ByteArray} {sp ov vw : Value} {held og st : Nat} {zs : List Int} {l : List UInt8}
/-! ### What is told -/
end
/-! ### What is told of nil -/
end Go.Proofs.Ytglpbianmbjoeaa
namespace Go.Proofs.Ytglpbianmbjoeaa
open Go.RowKit BwtM SrtM PkM
set_option linter.unusedVariables false
set_option linter.unusedSimpArgs false
/-- Where the place 0 stood among the first k. -/
def orgN (P : List Nat) : Nat → Nat
  | 0 => 0
  | k + 1 => if P.getD k 0 = 0 then k else orgN P k
theorem orgN_le (P : List Nat) : ∀ k, orgN P k ≤ k
  | 0 => Nat.le_refl _
  | k + 1 => by
    unfold orgN
    have := orgN_le P k
    split <;> omega
def lastN (T : List UInt8) (P : List Nat) (k : Nat) : List UInt8 := (P.take k).map (lastB T)
theorem lastN_next {T : List UInt8} {P : List Nat} {k : Nat} (h : k < P.length) : lastN T P (k + 1) = lastN T P k ++ [lastB T (P.getD k 0)] := by
  unfold lastN
  rw [List.take_succ_eq_append_getElem h, List.map_append, List.getD_eq_getElem?_getD, List.getElem?_eq_getElem h]
  rfl
theorem lastN_len {T : List UInt8} {P : List Nat} {k : Nat} (h : k ≤ P.length) : (lastN T P k).length = k := by unfold lastN; rw [List.length_map, List.length_take]; omega
theorem osl_h (b off n cap g : Nat) (h1 : g ≤ n) (h2 : n ≤ cap) (h3 : cap ≤ 9223372036854775807) (W : World) : (Instr.slice 27 (.slice (some ⟨b, off, none⟩) n cap) none (some (.int .i64 (g : Int))) none).run Try.prog W = .ok (.slice (some ⟨b, off, none⟩) g cap) W := by
  have hs : (sizeOf (Try.prog.elem 27)).run Try.prog W = .ok 1 W := by kernel_rfl
  rw [run_slice_h W 27 (some ⟨b, off, none⟩) n cap (by kernel_rfl) .i64 _ (by omega) (by omega), hs]
  have e1 : ((g : Int)).toNat = g := by omega
  simp [Result.andThen, sliced, e1, Addr.add]
theorem osl_l (b off n cap g : Nat) (h1 : g ≤ n) (h2 : n ≤ cap) (h3 : cap ≤ 9223372036854775807) (W : World) : (Instr.slice 27 (.slice (some ⟨b, off, none⟩) n cap) (some (.int .i64 (g : Int))) none none).run Try.prog W = .ok (.slice (some ⟨b, if cap = g then off else off + g, none⟩) (n - g) (cap - g)) W := by
  have hs : (sizeOf (Try.prog.elem 27)).run Try.prog W = .ok 1 W := by kernel_rfl
  rw [run_slice_l W 27 (some ⟨b, off, none⟩) n cap (by kernel_rfl) .i64 _ (by omega) (by omega), hs]
  have e1 : ((g : Int)).toNat = g := by omega
  by_cases e3 : cap = g
  · simp [Result.andThen, sliced, e1, e3]
  · simp [Result.andThen, sliced, e1, e3, Addr.add]
section
variable {B : Nat} {t : Nat} {s : ByteArray} {sp : Value} {held st : Nat}
end
end Go.Proofs.Ytglpbianmbjoeaa
namespace Go.Proofs.Ytglpbianmbjoeaa
open Go.RowKit BwtM SrtM PkM
set_option linter.unusedVariables false
set_option linter.unusedSimpArgs false
/-- The sorted places of a text. -/
structure Srtd (s : ByteArray) (n R : Nat) (P : List Nat) : Prop where
  size : s.size = n
  pos : 0 < n
  le : n ≤ 1024
  ord : IsSorted s.data.toList P
  steps : StepsOf s.data.toList R
theorem Srtd.len {s : ByteArray} {n R : Nat} {P : List Nat} (h : Srtd s n R P) : P.length = n ∧ s.data.toList.length = n ∧ (∀ p ∈ P, p < n) ∧ R ≤ 500000 := by
  have hl : s.data.toList.length = n := (txt_len s).trans h.size
  refine ⟨by rw [h.ord.1.length_eq, List.length_range, hl], hl, fun p hp => ?_, (h.steps.most (by rw [hl]; exact h.le)).2⟩
  have := List.mem_range.1 (h.ord.1.mem_iff.1 hp)
  omega
/-- A row of numbers of the call's own, as one of places. -/
theorem ord_val {w : World} {B : Nat} {v : Value} {zs : List Int} (h : OwnI w B v zs) (hz : 0 < zs.length) : ∃ bo cap, v = .slice (some ⟨bo, 0, none⟩) zs.length cap ∧ zs.length ≤ cap ∧ cap ≤ 9223372036854775807 := by
  have hl := h.1
  rcases h.2 with ⟨rfl, h0⟩ | ⟨g, cap, cur, rfl, hB, hg, hnc, hcm, hcs, ht⟩
  · rw [h0] at hz; omega
  · exact ⟨g, cap, rfl, hnc, by unfold maxLen at hcm; omega⟩
section
variable {B t n R g : Nat} {s : ByteArray} {P : List Nat}
end
end Go.Proofs.Ytglpbianmbjoeaa
namespace Go.Proofs.Ytglpbianmbjoeaa
open Go.RowKit BwtM SrtM PkM
set_option linter.unusedVariables false
set_option linter.unusedSimpArgs false
def tuCells (s : ByteArray) (sp : Value) (held : Nat) (ov : Value) : List Value := [.string s, sp, .int .i64 (held : Int), ov, .slice none 0 0, .int .i64 0, .int .i64 0]
/-! ### How many steps there are at most -/
def mostBw (N : Nat) : Nat := if N < 1 then 0 else min (mostN N + min N 1099511627776) 1099511627776
theorem Srtd.most {s : ByteArray} {n R : Nat} {P : List Nat} (h : Srtd s n R P) : R + n ≤ mostBw n ∧ mostBw n ≤ 1099511627776 := by
  obtain ⟨hl1, hl2, hl3, hl4⟩ := h.len
  have h1 := h.le
  have h2 := h.pos
  have h3 := (h.steps.most (by rw [hl2]; exact h1)).1
  rw [hl2] at h3
  have h4 := mostN_le n
  unfold mostBw
  rw [if_neg (by omega)]
  omega
end Go.Proofs.Ytglpbianmbjoeaa
namespace Go.Proofs.Ytglpbianmbjoeaa
open Go.RowKit BwtM SrtM PkM
set_option linter.unusedVariables false
set_option linter.unusedSimpArgs false
/-- What has all of some unlike things and no more than these has just these. -/
theorem perm_of_all : ∀ (L zs : List Int), L.Nodup → (∀ x ∈ L, x ∈ zs) → L.length ≤ zs.length ∧ (L.length = zs.length → zs.Perm L)
  | [], zs, _, _ => ⟨Nat.zero_le _, fun h => by
    have : zs = [] := List.eq_nil_of_length_eq_zero h.symm
    rw [this]⟩
  | x :: L, zs, hn, hs => by
    have hx : x ∈ zs := hs x (List.mem_cons_self ..)
    have hp := List.perm_cons_erase hx
    obtain ⟨h1, h2⟩ := perm_of_all L (zs.erase x) (List.nodup_cons.1 hn).2 (fun y hy => (List.mem_erase_of_ne (fun (e : y = x) => (List.nodup_cons.1 hn).1 (e ▸ hy))).2 (hs y (List.mem_cons_of_mem _ hy)))
    have hl := hp.length_eq
    rw [List.length_cons] at hl
    refine ⟨by rw [List.length_cons]; omega, fun h => hp.trans ((h2 (by rw [List.length_cons] at h; omega)).cons x)⟩
/-- zs has each of n places, each once. -/
def OrdOf (zs : List Int) (n : Nat) : Prop := ∃ P, zs = toI P ∧ P.Perm (List.range n)
theorem toI_nodup {P : List Nat} (h : P.Nodup) : (toI P).Nodup := by
  unfold toI
  rw [List.nodup_iff_pairwise_ne, List.pairwise_map]
  exact (List.nodup_iff_pairwise_ne.1 h).imp (fun h e => h (by omega))
theorem toI_of {zs : List Int} (h : ∀ z ∈ zs, 0 ≤ z) : zs = toI (zs.map Int.toNat) := by
  unfold toI
  rw [List.map_map]
  conv => lhs; rw [← List.map_id zs]
  exact List.map_congr_left (fun z hz => by have := h z hz; simp; omega)
theorem ordOf_perm {zs : List Int} {n : Nat} (h : zs.Perm (toI (List.range n))) : OrdOf zs n := by
  have h0 : ∀ z ∈ zs, 0 ≤ z := fun z hz => by
    have := h.mem_iff.1 hz
    unfold toI at this
    obtain ⟨x, _, rfl⟩ := List.mem_map.1 this
    omega
  refine ⟨zs.map Int.toNat, toI_of h0, ?_⟩
  have := h.map Int.toNat
  unfold toI at this
  rw [List.map_map] at this
  have e : (List.range n).map (Int.toNat ∘ fun (x : Nat) => (x : Int)) = List.range n := by
    conv => rhs; rw [← List.map_id (List.range n)]
    exact List.map_congr_left (fun x _ => by simp)
  rw [e] at this
  exact this
/-- All places stand in it, and no more stands there. -/
theorem ordOf_marks {zs : List Int} {n : Nat} : OrdOf zs n ↔ zs.length = n ∧ ∀ i, i < n → (i : Int) ∈ zs := by
  constructor
  · rintro ⟨P, rfl, hp⟩
    refine ⟨by rw [toI_length, hp.length_eq, List.length_range], fun i hi => ?_⟩
    unfold toI
    exact List.mem_map.2 ⟨i, hp.mem_iff.2 (List.mem_range.2 hi), rfl⟩
  · rintro ⟨hl, h⟩
    have hnd : (toI (List.range n)).Nodup := toI_nodup List.nodup_range
    have := (perm_of_all (toI (List.range n)) zs hnd (fun x hx => by
      unfold toI at hx
      obtain ⟨i, hi, rfl⟩ := List.mem_map.1 hx
      exact h i (List.mem_range.1 hi))).2 (by rw [toI_length, List.length_range, hl])
    exact ordOf_perm this
/-- All of it are places, no two the same. -/
theorem ordOf_unlike {zs : List Int} {n : Nat} : OrdOf zs n ↔ zs.length = n ∧ (∀ z ∈ zs, 0 ≤ z ∧ z < (n : Int)) ∧ zs.Nodup := by
  constructor
  · rintro ⟨P, rfl, hp⟩
    refine ⟨by rw [toI_length, hp.length_eq, List.length_range], fun z hz => ?_, toI_nodup (hp.nodup_iff.2 List.nodup_range)⟩
    unfold toI at hz
    obtain ⟨x, hx, rfl⟩ := List.mem_map.1 hz
    have := List.mem_range.1 (hp.mem_iff.1 hx)
    omega
  · rintro ⟨hl, hr, hn⟩
    have := (perm_of_all zs (toI (List.range n)) hn (fun z hz => by
      obtain ⟨h1, h2⟩ := hr z hz
      unfold toI
      exact List.mem_map.2 ⟨z.toNat, List.mem_range.2 (by omega), by omega⟩)).2 (by rw [toI_length, List.length_range, hl])
    exact ordOf_perm this.symm
/-! ### The code's isOrder -/
def RowT (w : World) (g : Nat) (l : List Bool) : Prop := w.heap[g]? = some (.cells (l.map Value.bool).toArray 4 (0, 0))
theorem RowT.cell {w : World} {g : Nat} {l : List Bool} (h : RowT w g l) {i : Nat} (hi : i < l.length) : w.cell? ⟨g, i, none⟩ = some (.bool (l.getD i false)) ∧ w.frozen? ⟨g, i, none⟩ = false ∧
    ∀ x : Bool, RowT (w.setCell ⟨g, i, none⟩ (.bool x)) g (l.set i x) := by
  refine ⟨?_, frozen_of_row _ _ _ _ _ h, fun x => ?_⟩
  · rw [cell_of_row _ _ _ _ _ _ h]
    simp [List.getD_eq_getElem?_getD, hi]
  · unfold RowT
    rw [heap_setCell_same w g i _ _ _ h]
    congr 2
    apply Array.toList_inj.1
    simp [List.map_set]
theorem RowT.made (w : World) (n : Nat) : RowT (w.alloc (.cells (madeCells #[Value.bool false] n) 4)) w.heap.size (List.replicate n false) := by
  unfold RowT
  rw [heap_alloc_new]
  congr 2
  apply Array.toList_inj.1
  rw [toList_madeCells_one]
  simp
/-- Which places are marked behind the first j. -/
def marks (zs : List Int) (n j : Nat) : List Bool := (List.range n).map fun (i : Nat) => decide ((i : Int) ∈ zs.take j)
theorem marks_len (zs : List Int) (n j : Nat) : (marks zs n j).length = n := by simp [marks]
theorem marks_zero (zs : List Int) (n : Nat) : marks zs n 0 = List.replicate n false := by
  unfold marks
  apply List.ext_getElem
  · simp
  · intro i h1 h2; simp
theorem marks_get (zs : List Int) {n j i : Nat} (h : i < n) : (marks zs n j).getD i false = decide ((i : Int) ∈ zs.take j) := by
  unfold marks
  rw [List.getD_eq_getElem?_getD, List.getElem?_map, List.getElem?_range h]
  rfl
theorem marks_el (zs : List Int) {n j i : Nat} (h : i < (marks zs n j).length) : (marks zs n j)[i] = decide ((i : Int) ∈ zs.take j) := by simp [marks]
theorem take_next {zs : List Int} {j : Nat} (h : j < zs.length) : zs.take (j + 1) = zs.take j ++ [zs.getD j 0] := by
  rw [List.take_succ_eq_append_getElem h, List.getD_eq_getElem?_getD, List.getElem?_eq_getElem h]
  rfl
theorem marks_in {zs : List Int} {n j p : Nat} (h : j < zs.length) (hp : zs.getD j 0 = (p : Int)) (hpn : p < n) : (marks zs n j).set p true = marks zs n (j + 1) := by
  apply List.ext_getElem
  · simp [marks]
  · intro i h1 h2
    have hi : i < n := by simpa [marks] using h2
    rw [List.getElem_set, marks_el, marks_el, take_next h, hp]
    by_cases e : p = i
    · subst e; simp
    · rw [if_neg e, decide_eq_decide]
      simp only [List.mem_append, List.mem_singleton]
      constructor
      · exact Or.inl
      · rintro (h | h)
        · exact h
        · omega
theorem marks_out {zs : List Int} {n j : Nat} (h : j < zs.length) (hp : ¬ (0 ≤ zs.getD j 0 ∧ zs.getD j 0 < (n : Int))) : marks zs n j = marks zs n (j + 1) := by
  apply List.ext_getElem
  · simp [marks]
  · intro i h1 h2
    have hi : i < n := by simpa [marks] using h2
    rw [marks_el, marks_el, take_next h, decide_eq_decide]
    simp only [List.mem_append, List.mem_singleton]
    constructor
    · exact Or.inl
    · rintro (h | h)
      · exact h
      · omega
theorem RowT.below {w w' : World} {g : Nat} {l : List Bool} (h : RowT w g l) (hb : Below w.heap.size w w') : RowT w' g l := (hb.block g (Array.getElem?_eq_some_iff.1 h).1).trans h
end Go.Proofs.Ytglpbianmbjoeaa
namespace Go.Proofs.Ytglpbianmbjoeaa
open Go.RowKit BwtM SrtM PkM
set_option linter.unusedVariables false
set_option linter.unusedSimpArgs false
/-! ### The document's Ordered -/
theorem mem_take {zs : List Int} {z : Int} {i : Nat} (h : z ∈ zs.take i) : ∃ c, c < i ∧ c < zs.length ∧ zs.getD c 0 = z := by
  obtain ⟨c, hc, e⟩ := List.getElem_of_mem h
  rw [List.length_take] at hc
  refine ⟨c, by omega, by omega, ?_⟩
  rw [List.getD_eq_getElem?_getD, List.getElem?_eq_getElem (by omega)]
  rw [List.getElem_take] at e
  exact e
set_option maxRecDepth 100000 in
set_option maxHeartbeats 4000000 in
theorem ordered_any (bo off m cap n : Nat) (zs : List Int) (r : Bool) (w : World) (hv : IsInts w (.slice (some ⟨bo, off, none⟩) m cap) zs) (hm : zs.length = m) (hr : r = true ↔ OrdOf zs n) (hm2 : m ≤ 500000) (hn : n ≤ 500000) (hc1 : m ≤ cap) (hc2 : cap ≤ 9223372036854775807) :
    Calls Try.prog 23 #[.slice (some ⟨bo, off, none⟩) m cap, .int .i64 (n : Int)] w fun e w' => e = .returned (.bool r) ∧ w' = w := by
  have HV := Lib.hid hv
  have HR := Lib.hid hr
  have HM := Lib.hid hm
  have HCELL : Hid (∀ j, j < m → w.cell? ⟨bo, off + j, none⟩ = some (.int .i64 (zs.getD j 0))) := Lib.hid (fun j hj => by
    obtain ⟨b2, o2, c2, e2, hc⟩ := hv.cell (k := j) (by rw [hm]; exact hj)
    simp only [Value.slice.injEq, Option.some.injEq, Addr.mk.injEq] at e2
    obtain ⟨⟨rfl, rfl, _⟩, _, _⟩ := e2
    exact hc)
  have HSL := Lib.hid (fun (g : Nat) (hg : g ≤ m) W => osl_h bo off m cap g hg hc1 hc2 W)
  clear hv hr hm
  go_enter Try.func23, Try.ntmps23
  go_wp2_with fail
  go_loop [11] (fun vi => ∃ i : Nat, vi = .int .i64 (i : Int) ∧ i ≤ m ∧ (∀ z ∈ zs.take i, 0 ≤ z ∧ z < (n : Int)) ∧ (zs.take i).Nodup) (fun vi => m - (intOf vi).toNat)
  case atStart => exact ⟨0, rfl, Nat.zero_le _, fun z hz => (by simp at hz), by simp⟩
  case round =>
    obtain ⟨i, rfl, hi, hin, hnd⟩ := hrel
    have HIN := Lib.hid hin
    have HND := Lib.hid hnd
    clear hin hnd
    by_cases him : i < m
    · have hii : (i : Int) < (m : Int) := by omega
      have cI := HCELL.out i him
      obtain ⟨z, hz⟩ : ∃ z, zs.getD i 0 = z := ⟨_, rfl⟩
      rw [hz] at cI
      have HZ := Lib.hid hz
      have HZM : Hid (z ∈ zs) := Lib.hid (by
        rw [← hz, List.getD_eq_getElem?_getD, List.getElem?_eq_getElem (by rw [HM.out]; exact him)]
        exact List.getElem_mem _)
      have hsl := HSL.out i hi
      clear hz
      have HNO : Hid (¬ (0 ≤ z ∧ z < (n : Int)) → r = false) := Lib.hid (fun hno => by
        rcases Bool.eq_false_or_eq_true r with c | c
        · exact absurd ((ordOf_unlike.1 (HR.out.1 c)).2.1 z HZM.out) hno
        · exact c)
      by_cases hz0 : z < 0
      · have hrf := HNO.out (by omega)
        subst hrf
        go_wp2_with fail
        go_ret
        exact ⟨rfl, rfl⟩
      · by_cases hzn : z ≥ (n : Int)
        · have hrf := HNO.out (by omega)
          subst hrf
          go_wp2_with fail
          go_ret
          exact ⟨rfl, rfl⟩
        · have HZR : Hid (0 ≤ z ∧ z < (n : Int)) := Lib.hid (by omega)
          go_wp2_with fail
          go_loop [27] (fun vk => ∃ k : Nat, vk = .int .i64 (k : Int) ∧ k ≤ i ∧ ∀ c, c < k → zs.getD c 0 ≠ z) (fun vk => i - (intOf vk).toNat)
          case atStart => exact ⟨0, rfl, Nat.zero_le _, fun c h => by omega⟩
          case round =>
            obtain ⟨k, rfl, hk, hne⟩ := hrel
            have HNE := Lib.hid hne
            clear hne
            by_cases hki : k < i
            · have hkii : (k : Int) < (i : Int) := by omega
              have cK := HCELL.out k (by omega)
              obtain ⟨y, hy⟩ : ∃ y, zs.getD k 0 = y := ⟨_, rfl⟩
              rw [hy] at cK
              have HY := Lib.hid hy
              clear hy
              by_cases hyz : z = y
              · have hE : (z == y) = true := by rw [beq_iff_eq]; exact hyz
                have hrf : r = false := by
                  rcases Bool.eq_false_or_eq_true r with c | c
                  · have hnd := (ordOf_unlike.1 (HR.out.1 c)).2.2
                    rw [List.nodup_iff_pairwise_ne, List.pairwise_iff_getElem] at hnd
                    have h5 := hnd k i (by rw [HM.out]; omega) (by rw [HM.out]; omega) hki
                    have e1 : zs.getD k 0 = zs[k]'(by rw [HM.out]; omega) := by rw [List.getD_eq_getElem?_getD, List.getElem?_eq_getElem (by rw [HM.out]; omega)]; rfl
                    have e2 : zs.getD i 0 = zs[i]'(by rw [HM.out]; omega) := by rw [List.getD_eq_getElem?_getD, List.getElem?_eq_getElem (by rw [HM.out]; omega)]; rfl
                    rw [← e1, ← e2, HY.out, HZ.out] at h5
                    exact absurd hyz.symm h5
                  · exact c
                subst hrf
                clear hyz
                go_wp2_with fail
                go_ret
                exact ⟨rfl, rfl⟩
              · have hE : (z == y) = false := by rw [beq_eq_false_iff_ne]; exact hyz
                have HNY : Hid (y ≠ z) := Lib.hid (fun e => hyz e.symm)
                clear hyz
                go_wp2_with fail
                go_round
                case rel => exact ⟨k + 1, by go_num, by omega, fun c hc => by
                  rcases (by omega : c < k ∨ c = k) with e | e
                  · exact HNE.out c e
                  · rw [e, HY.out]; exact HNY.out⟩
                case measure => simp [intOf]; omega
            · have hkii : ¬ (k : Int) < (i : Int) := by omega
              have HIN2 : Hid ((∀ x ∈ zs.take (i + 1), 0 ≤ x ∧ x < (n : Int)) ∧ (zs.take (i + 1)).Nodup) := Lib.hid (by
                rw [take_next (by rw [HM.out]; exact him), HZ.out]
                constructor
                · intro x hx
                  rcases List.mem_append.1 hx with hx | hx
                  · exact HIN.out x hx
                  · rw [List.mem_singleton] at hx
                    rw [hx]; exact HZR.out
                · rw [List.nodup_append]
                  refine ⟨HND.out, by simp, fun a ha b hb => ?_⟩
                  rw [List.mem_singleton] at hb
                  obtain ⟨c, hc1, _, hc3⟩ := mem_take ha
                  rw [hb, ← hc3]
                  exact HNE.out c (by omega))
              go_wp2_with fail
              go_round
              case rel => exact ⟨i + 1, by go_num, by omega, HIN2.out.1, HIN2.out.2⟩
              case measure => simp [intOf]; omega
    · have hii : ¬ (i : Int) < (m : Int) := by omega
      have hie : zs.take i = zs := List.take_of_length_le (by rw [HM.out]; omega)
      have HALL := Lib.hid (And.intro HIN.out HND.out)
      rw [hie] at HALL
      have hrr : ((m : Int) == (n : Int)) = r := by
        rw [Bool.eq_iff_iff, beq_iff_eq, HR.out, ordOf_unlike, HM.out]
        constructor
        · intro h; exact ⟨by omega, HALL.out.1, HALL.out.2⟩
        · rintro ⟨h, _⟩; omega
      clear hie
      go_wp2_with fail
      go_ret
      exact ⟨rfl, rfl⟩
end Go.Proofs.Ytglpbianmbjoeaa
namespace Go.Proofs.Ytglpbianmbjoeaa
open Go.RowKit BwtM SrtM PkM
set_option linter.unusedVariables false
set_option linter.unusedSimpArgs false
theorem rot_last (s : ByteArray) (n p : Nat) (hn : s.size = n) (hp : p < n) : (rotT s p).extract (n - 1) n = ⟨#[lastB s.data.toList p]⟩ := by
  have hl : s.data.toList.length = n := (txt_len s).trans hn
  have hr : (rotT s p).size = n := by rw [rotT_size s p (by omega), hn]
  rw [text_inj]
  have e := rot_dataD (rotT s p) (n - 1)
  rw [hr] at e
  rw [e, rotT_data, lastB_rot (by rw [hl]; exact hp)]
  have h2 := rot_len s.data.toList p (by rw [hl]; omega)
  rw [hl] at h2
  show List.drop (n - 1) (rot s.data.toList p) = [(rot s.data.toList p).getLastD 0]
  have h7 : (rot s.data.toList p).getLastD 0 = (rot s.data.toList p).getD (n - 1) 0 := by
    rw [List.getLastD_eq_getLast?, List.getLast?_eq_getElem?, h2, List.getD_eq_getElem?_getD]
  rw [List.drop_eq_getElem_cons (by omega), List.drop_of_length_le (by omega), h7, List.getD_eq_getElem?_getD, List.getElem?_eq_getElem (by omega)]
  rfl
/-- What the document's answer holds. -/
def TwoC (w : World) (o : Nat) (L : ByteArray) (og : Nat) : Prop := w.heap[o]? = some (.cells #[.string L, .int .i64 (og : Int)] 32 (0, 0))
theorem TwoC.cells {w : World} {o og : Nat} {L : ByteArray} (h : TwoC w o L og) : w.cell? ⟨o, 0, none⟩ = some (.string L) ∧ w.cell? ⟨o, 1, none⟩ = some (.int .i64 (og : Int)) ∧ w.frozen? ⟨o, 0, none⟩ = false ∧ w.frozen? ⟨o, 1, none⟩ = false :=
  ⟨by rw [cell_of_row _ _ 0 _ _ _ h]; rfl, by rw [cell_of_row _ _ 1 _ _ _ h]; rfl, frozen_of_row _ _ _ _ _ h, frozen_of_row _ _ _ _ _ h⟩
theorem TwoC.set0 {w : World} {o og : Nat} {L : ByteArray} (h : TwoC w o L og) (L' : ByteArray) : TwoC (w.setCell ⟨o, 0, none⟩ (.string L')) o L' og := by
  unfold TwoC
  rw [heap_setCell_same w o 0 _ _ _ h]
  rfl
theorem TwoC.set1 {w : World} {o og : Nat} {L : ByteArray} (h : TwoC w o L og) (x : Nat) : TwoC (w.setCell ⟨o, 1, none⟩ (.int .i64 (x : Int))) o L x := by
  unfold TwoC
  rw [heap_setCell_same w o 1 _ _ _ h]
  rfl
theorem turned_one (L : ByteArray) (og : Int) : (#[Value.string L, Value.int .i64 og]).all (·.oneCell') = true := by kernel_rfl
theorem tinfo : (Try.prog.info? 32).map (·.size) = some 2 := by kernel_rfl
set_option maxRecDepth 100000 in
set_option maxHeartbeats 4000000 in
theorem rfrom_any (s : ByteArray) (n : Nat) (P : List Nat) (v : Value) (w : World) (hn : s.size = n) (h0 : 0 < n) (hs : n ≤ 1024) (hp : ∀ p ∈ P, p < n) (hlp : P.length = n) (hv : IsInts w v (toI P)) :
    Calls Try.prog 27 #[.string s, v] w fun e w' => e = .returned (.agg #[.string ⟨(lastN s.data.toList P n).toArray⟩, .int .i64 (orgN P n : Int)]) ∧ Below w.heap.size w w' := by
  have HROT := Lib.hid (fun (p : Nat) W (h : p < n) => rrotation_any s p W (by omega) (by omega))
  have HP := Lib.hid hp
  have HLP := Lib.hid hlp
  have HV := Lib.hid hv
  have HN := Lib.hid hn
  obtain ⟨a, cap, rfl, _⟩ := hv
  rw [toI_length, hlp] at HV ⊢
  clear hp hlp hn
  go_enter Try.func27, Try.ntmps27
  go_wp2_with fail
  have HT0 : Hid (TwoC ((w.alloc (.cells #[.string ⟨#[]⟩, .int .i64 0] 32)).alloc (.cells #[.string ⟨#[]⟩, .int .i64 0] 32)) (w.heap.size + 1) ⟨#[]⟩ 0) := Lib.hid (heap_alloc2_new w _ _)
  have HX0 : Hid (((w.alloc (.cells #[.string ⟨#[]⟩, .int .i64 0] 32)).alloc (.cells #[.string ⟨#[]⟩, .int .i64 0] 32)).heap[w.heap.size]? = some (.cells #[.string ⟨#[]⟩, .int .i64 0] 32 (0, 0))) := Lib.hid (heap_alloc2_old w _ _)
  have HB0 : Hid (Below w.heap.size w ((w.alloc (.cells #[.string ⟨#[]⟩, .int .i64 0] 32)).alloc (.cells #[.string ⟨#[]⟩, .int .i64 0] 32))) := Lib.hid (((Below.refl w.heap.size w).alloc (Nat.le_refl _) _).alloc (by simp) _)
  generalize (w.alloc (.cells #[.string ⟨#[]⟩, .int .i64 0] 32)).alloc (.cells #[.string ⟨#[]⟩, .int .i64 0] 32) = w0 at *
  obtain ⟨x4, hx4⟩ : ∃ x4, w.heap.size = x4 := ⟨_, rfl⟩
  obtain ⟨o, ho⟩ : ∃ o, w.heap.size + 1 = o := ⟨_, rfl⟩
  have HXO : Hid (x4 < o ∧ w.heap.size = x4 ∧ o = x4 + 1) := Lib.hid (by omega)
  rw [ho] at HT0 ⊢
  rw [hx4] at HX0 HB0 ⊢
  clear hx4 ho
  go_wp2_with fail
  go_loopw [12] (fun vk wr => ∃ (k : Nat) (L : ByteArray) (og : Nat), vk = .int .i64 (k : Int) ∧ k ≤ n ∧ TwoC wr o L og ∧ L = ⟨(lastN s.data.toList P k).toArray⟩ ∧ og = orgN P k ∧ wr.heap[x4]? = some (.cells #[.string ⟨#[]⟩, .int .i64 0] 32 (0, 0)) ∧ Below x4 w wr) (fun vk _ => n - (intOf vk).toNat)
  case atStart => exact ⟨0, _, _, rfl, Nat.zero_le _, HT0.out, rfl, rfl, HX0.out, HB0.out⟩
  case round =>
    clear HT0 HX0 HB0
    obtain ⟨k, L, og, rfl, hk, hT, hL, hog, hX, hB⟩ := hrel
    have HT := Lib.hid hT
    have HL := Lib.hid hL
    have HOG := Lib.hid hog
    have HX := Lib.hid hX
    have HB := Lib.hid hB
    clear hT hL hog hX hB
    by_cases hkn : k < n
    · have hki : (k : Int) < (n : Int) := by omega
      obtain ⟨bb, off, cp, hvv, hc⟩ := (HV.out.below (by have := HB.out; rw [← HXO.out.2.1] at this; exact this)).cell (k := k) (by rw [toI_length, HLP.out]; exact hkn)
      rw [toI_getD] at hc
      simp only [Value.slice.injEq] at hvv
      obtain ⟨rfl, hxx, rfl⟩ := hvv
      clear hxx
      obtain ⟨p, hpE⟩ : ∃ p, P.getD k 0 = p := ⟨_, rfl⟩
      rw [hpE] at hc
      have HPE := Lib.hid hpE
      have hpn : p < n := by
        rw [← hpE, List.getD_eq_getElem?_getD, List.getElem?_eq_getElem (by rw [HLP.out]; exact hkn)]
        exact HP.out _ (List.getElem_mem _)
      clear hpE
      have HR := Lib.hid (fun W => HROT.out p W hpn)
      have hlast := rot_last s n p HN.out hpn
      obtain ⟨rr, hrr⟩ : ∃ rr, rotT s p = rr := ⟨_, rfl⟩
      have hrs : rr.size = n := by rw [← hrr, rotT_size s p (by rw [HN.out]; omega), HN.out]
      obtain ⟨y, hy⟩ : ∃ y : ByteArray, (⟨#[lastB s.data.toList p]⟩ : ByteArray) = y := ⟨_, rfl⟩
      rw [hrr, hy] at hlast
      rw [hrr] at HR
      have hys : y.size = 1 := by rw [← hy]; rfl
      have hLs : L.size ≤ 1024 := by rw [HL.out, text_size, lastN_len (by rw [HLP.out]; exact hk)]; omega
      have HLY : Hid (L ++ y = ⟨(lastN s.data.toList P (k + 1)).toArray⟩) := Lib.hid (by
        rw [lastN_next (by rw [HLP.out]; exact hkn), HPE.out, HL.out, ← hy]
        exact text_append _ [_])
      obtain ⟨n1, hn1⟩ : ∃ n1, n - 1 = n1 := ⟨_, rfl⟩
      have hn1i : (n : Int) - 1 = (n1 : Int) := by omega
      have hn1w : IntKind.i64.wrap (n1 : Int) = (n1 : Int) := IntWalk.i64_in _ (by omega)
      have hn1n : (n1 : Int) ≤ (n : Int) := by omega
      have hrsi : (rr.size : Int) = (n : Int) := by omega
      rw [hn1] at hlast
      have hlast2 : rr.extract n1 rr.size = y := by rw [hrs]; exact hlast
      clear hrr hy hn1
      go_wp2_with fail
      refine (HR.out _).mono ?_
      rintro e w2 ⟨rfl, hb2⟩
      have HT2 : Hid (TwoC w2 o L og) := Lib.hid ((hb2.block o (Array.getElem?_eq_some_iff.1 HT.out).1).trans HT.out)
      have HX2 : Hid (w2.heap[x4]? = some (.cells #[.string ⟨#[]⟩, .int .i64 0] 32 (0, 0))) := Lib.hid ((hb2.block x4 (Array.getElem?_eq_some_iff.1 HX.out).1).trans HX.out)
      have HB2 : Hid (Below x4 w w2) := Lib.hid (HB.out.trans (hb2.mono (by have := HB.out.size; have := HXO.out; omega)))
      obtain ⟨c0, c1, f0, f1⟩ := HT2.out.cells
      clear hb2 hlast2
      obtain ⟨Ly, hLy⟩ : ∃ Ly, L ++ y = Ly := ⟨_, rfl⟩
      have HLY2 : Hid (Ly = ⟨(lastN s.data.toList P (k + 1)).toArray⟩) := Lib.hid (by rw [← hLy]; exact HLY.out)
      have HT3 : Hid (TwoC ((w2.drewN 1).setCell ⟨o, 0, none⟩ (.string Ly)) o Ly og) := Lib.hid (TwoC.set0 (w := w2.drewN 1) HT2.out Ly)
      have HX3 : Hid (((w2.drewN 1).setCell ⟨o, 0, none⟩ (.string Ly)).heap[x4]? = some (.cells #[.string ⟨#[]⟩, .int .i64 0] 32 (0, 0))) := Lib.hid ((heap_setCell_other (w2.drewN 1) ⟨o, 0, none⟩ x4 _ (by have := HXO.out; show x4 ≠ o; omega)).trans HX2.out)
      have HB3 : Hid (Below x4 w ((w2.drewN 1).setCell ⟨o, 0, none⟩ (.string Ly))) := Lib.hid ((HB2.out.trans (belowB_drewN _ _ 1)).setCell (p := ⟨o, 0, none⟩) (by have := HXO.out; show x4 ≤ o; omega) _)
      by_cases hp0 : p = 0
      · have hp0i : ((p : Int) == 0) = true := by rw [beq_iff_eq]; omega
        have HOG2 : Hid (k = orgN P (k + 1)) := Lib.hid (by
          show k = (if P.getD k 0 = 0 then k else orgN P k)
          rw [HPE.out, if_pos hp0])
        clear hp0
        go_wp2_with fail
        go_still_tail 7, (by kernel_rfl)
        change wpList _ _ _ _ _ (w2.drewN 1)
        have HT4 : Hid (TwoC (((w2.drewN 1).setCell ⟨o, 0, none⟩ (.string Ly)).setCell ⟨o, 1, none⟩ (.int .i64 (k : Int))) o Ly k) := Lib.hid (HT3.out.set1 k)
        have HX4 : Hid ((((w2.drewN 1).setCell ⟨o, 0, none⟩ (.string Ly)).setCell ⟨o, 1, none⟩ (.int .i64 (k : Int))).heap[x4]? = some (.cells #[.string ⟨#[]⟩, .int .i64 0] 32 (0, 0))) := Lib.hid ((heap_setCell_other _ ⟨o, 1, none⟩ x4 _ (by have := HXO.out; show x4 ≠ o; omega)).trans HX3.out)
        have HB4 : Hid (Below x4 w (((w2.drewN 1).setCell ⟨o, 0, none⟩ (.string Ly)).setCell ⟨o, 1, none⟩ (.int .i64 (k : Int)))) := Lib.hid (HB3.out.setCell (p := ⟨o, 1, none⟩) (by have := HXO.out; show x4 ≤ o; omega) _)
        go_wp2_with fail
        go_roundw
        case rel => exact ⟨k + 1, _, _, by go_num, by omega, HT4.out, HLY2.out, HOG2.out, HX4.out, HB4.out⟩
        case measure => simp [intOf]; omega
      · have hp0i : ((p : Int) == 0) = false := by rw [beq_eq_false_iff_ne]; omega
        have HOG2 : Hid (og = orgN P (k + 1)) := Lib.hid (by
          show og = (if P.getD k 0 = 0 then k else orgN P k)
          rw [HPE.out, if_neg hp0]
          exact HOG.out)
        clear hp0
        go_wp2_with fail
        go_still_tail 7, (by kernel_rfl)
        change wpList _ _ _ _ _ (w2.drewN 1)
        go_wp2_with fail
        go_roundw
        case rel => exact ⟨k + 1, _, _, by go_num, by omega, HT3.out, HLY2.out, HOG2.out, HX3.out, HB3.out⟩
        case measure => simp [intOf]; omega
    · have hki : ¬ (k : Int) < (n : Int) := by omega
      have hke : k = n := by omega
      have hu := Try.underlying32
      have hi := tinfo
      have hgo := HT.out
      unfold TwoC at hgo
      have hg4 := HX.out
      have HBF : Hid (Below x4 w (wr.setRow x4 #[.string L, .int .i64 (og : Int)])) := Lib.hid (below_setRow HB.out (Nat.le_refl _) _)
      have HXW : Hid (x4 = w.heap.size) := Lib.hid HXO.out.2.1.symm
      go_wp2_with (first
        | (refine wpList_load_row rfl 32 _ rfl o rfl 32 #[.string L, .int .i64 (og : Int)] (0, 0) _ hgo hu rfl hi ?_)
        | (refine wpList_store_row rfl 32 _ _ rfl x4 #[.string L, .int .i64 (og : Int)] rfl rfl 32 _ hg4 hi rfl (turned_one _ _) ?_))
      refine bodyPost_ret (v := .agg #[.string L, .int .i64 (og : Int)]) (results_cell_row rfl _ _ x4 32 _ (0, 0) _ rfl (setRow_heap _ _ _ _ _ _ hg4) hu rfl hi) rfl ?_
      exact ⟨by rw [HL.out, HOG.out, hke], by rw [← HXW.out]; exact HBF.out⟩
set_option maxRecDepth 100000 in
set_option maxHeartbeats 4000000 in
theorem rof_any (s : ByteArray) (n : Nat) (w : World) (hn : s.size = n) (h0 : 0 < n) (hs : n ≤ 1024) : Calls Try.prog 15 #[.string s] w fun e w' => (∃ P, IsSorted s.data.toList P ∧ e = .returned (.agg #[.string ⟨(lastN s.data.toList P n).toArray⟩, .int .i64 (orgN P n : Int)])) ∧ Below w.heap.size w w' := by
  have HSO := Lib.hid (fun W => rsorted_any s W (by omega))
  have hl : s.data.toList.length = n := (txt_len s).trans hn
  have hps := sortP_is s.data.toList
  rw [hl] at hps
  rw [hn] at HSO
  obtain ⟨P, hP⟩ : ∃ P, sortP s.data.toList n = P := ⟨_, rfl⟩
  rw [hP] at HSO hps
  have hlp : P.length = n := by rw [hps.1.length_eq, List.length_range, hl]
  have HFR := Lib.hid (fun v W (hv : IsInts W v (toI P)) => rfrom_any s n P v W hn h0 hs (fun p hp => by have := List.mem_range.1 (hps.1.mem_iff.1 hp); omega) hlp hv)
  have HPS := Lib.hid hps
  obtain ⟨L, hL⟩ : ∃ L : ByteArray, (⟨(lastN s.data.toList P n).toArray⟩ : ByteArray) = L := ⟨_, rfl⟩
  obtain ⟨og, hog⟩ : ∃ og, orgN P n = og := ⟨_, rfl⟩
  rw [hL, hog] at HFR
  have HL := Lib.hid (And.intro hL hog)
  have hu := Try.underlying32
  have hi := tinfo
  have HB0 : Hid (Below w.heap.size w (w.alloc (.cells #[.string ⟨#[]⟩, .int .i64 0] 32))) := Lib.hid ((Below.refl _ _).alloc (Nat.le_refl _) _)
  have HG0 : Hid ((w.alloc (.cells #[.string ⟨#[]⟩, .int .i64 0] 32)).heap[w.heap.size]? = some (.cells #[.string ⟨#[]⟩, .int .i64 0] 32 (0, 0))) := Lib.hid (heap_alloc_new w _)
  clear hl hps hP hlp hn hL hog
  go_enter Try.func15, Try.ntmps15
  go_wp2_with fail
  refine (HSO.out _).mono ?_
  rintro e w2 ⟨v, rfl, hO, hb2⟩
  have HI2 := Lib.hid hO.ints
  have HB2 := Lib.hid (HB0.out.trans (hb2.mono HB0.out.size))
  have HG2 : Hid (w2.heap[w.heap.size]? = some (.cells #[.string ⟨#[]⟩, .int .i64 0] 32 (0, 0))) := Lib.hid ((hb2.block _ (by simp)).trans HG0.out)
  clear hO hb2
  go_wp2_with fail
  refine (HFR.out v w2 HI2.out).mono ?_
  rintro e w3 ⟨rfl, hb3⟩
  have HB3 := Lib.hid (HB2.out.trans (hb3.mono HB2.out.size))
  have hg3 : w3.heap[w.heap.size]? = some (.cells #[.string ⟨#[]⟩, .int .i64 0] 32 (0, 0)) := (hb3.block _ (Array.getElem?_eq_some_iff.1 HG2.out).1).trans HG2.out
  have HBF : Hid (Below w.heap.size w (w3.setRow w.heap.size #[.string L, .int .i64 (og : Int)])) := Lib.hid (below_setRow HB3.out (Nat.le_refl _) _)
  clear hb3
  go_wp2_with (refine wpList_store_row rfl 32 _ _ rfl w.heap.size #[.string L, .int .i64 (og : Int)] rfl rfl 32 _ hg3 hi rfl (turned_one _ _) ?_)
  refine bodyPost_ret (v := .agg #[.string L, .int .i64 (og : Int)]) (results_cell_row rfl _ _ w.heap.size 32 _ (0, 0) _ rfl (setRow_heap _ _ _ _ _ _ hg3) hu rfl hi) rfl ?_
  exact ⟨⟨P, HPS.out, by rw [HL.out.1, HL.out.2]⟩, HBF.out⟩
end Go.Proofs.Ytglpbianmbjoeaa
namespace Go.Proofs.Ytglpbianmbjoeaa
open Go.RowKit BwtM SrtM PkM
set_option linter.unusedVariables false
set_option linter.unusedSimpArgs false
theorem wf_i64 {n : Int} (h : (Lit.int .i64 n).wf = true) : -9223372036854775808 ≤ n ∧ n ≤ 9223372036854775807 := by
  simpa [Lit.wf, IntKind.min, IntKind.max, IntKind.signed, IntKind.bits] using h
theorem StepsOf.zero {T : List UInt8} {R : Nat} (h : StepsOf T R) : 0 < T.length ∨ R = 0 := by
  rcases h with ⟨_, h⟩ | ⟨h, _⟩
  · exact Or.inr h
  · exact Or.inl (by omega)
end Go.Proofs.Ytglpbianmbjoeaa
namespace Go.Proofs.Ytglpbianmbjoeaa
open Go.RowKit BwtM SrtM PkM
set_option linter.unusedVariables false
set_option linter.unusedSimpArgs false
/-- The numbers of a row that came in are such as may be. -/
theorem row_wf {w : World} {a : Option Addr} {len cap : Nat} {zs : List Int} (h : IsRow .i64 w a len cap zs) : ∀ z ∈ zs.take len, -9223372036854775808 ≤ z ∧ z ≤ 9223372036854775807 := fun z hz => by
  have hz2 := List.mem_of_mem_take hz
  rcases h with ⟨_, _, _, rfl⟩ | ⟨_, _, _, _, _, _, hw⟩
  · cases hz2
  · exact wf_i64 (hw z hz2)
theorem cut_want (b : Int) (d : Nat) : max 0 (min b (d : Int)) = ((min b.toNat d : Nat) : Int) := by omega
end Go.Proofs.Ytglpbianmbjoeaa
namespace Go.Proofs.Ytglpbianmbjoeaa
open Go.RowKit BwtM SrtM PkM
set_option linter.unusedVariables false
set_option linter.unusedSimpArgs false
theorem lastN_lasts {T : List UInt8} {P : List Nat} {n : Nat} (hn : T.length = n) (hP : IsSorted T P) : lastN T P n = lasts T P := by
  have hl : P.length = n := by rw [hP.1.length_eq, List.length_range, hn]
  unfold lastN lasts
  rw [List.take_of_length_le (by omega)]
  exact List.map_congr_left (fun p hp => lastB_rot (List.mem_range.1 (hP.1.mem_iff.1 hp)))
theorem turned_box (w : World) (L : ByteArray) (og : Int) : (w.alloc (.cells #[.string L, .int .i64 og] 32)).cell? ⟨w.heap.size, 0, none⟩ = some (.string L) ∧ (w.alloc (.cells #[.string L, .int .i64 og] 32)).cell? ⟨w.heap.size, 1, none⟩ = some (.int .i64 og) :=
  ⟨by rw [cell_of_row _ _ 0 _ _ _ (heap_alloc_new _ _)]; rfl, by rw [cell_of_row _ _ 1 _ _ _ (heap_alloc_new _ _)]; rfl⟩
end Go.Proofs.Ytglpbianmbjoeaa
namespace Go.Proofs.Ytglpbianmbjoeaa
open Go.RowKit BwtM SrtM PkM
set_option linter.unusedVariables false
set_option linter.unusedSimpArgs false
set_option maxHeartbeats 2000000 in
theorem ordered_none (a : Option Addr) (cap n : Nat) (w : World) (h0 : 0 < n) (hn : n ≤ 500000) : Calls Try.prog 23 #[.slice a 0 cap, .int .i64 (n : Int)] w fun e w' => e = .returned (.bool false) ∧ w' = w := by
  have hE : ((0 : Int) == (n : Int)) = false := by rw [beq_eq_false_iff_ne]; omega
  go_enter Try.func23, Try.ntmps23
  go_wp2_with fail
  go_loop [11] (fun vi => vi = .int .i64 0) (fun _ => 0)
  case atStart => rfl
  case round =>
    subst hrel
    go_wp2_with fail
    go_ret
    exact ⟨rfl, rfl⟩
/-! ### BwtBytes -/
theorem orgN_lt (P : List Nat) {n : Nat} (h : 0 < n) : orgN P n < n := by
  cases n with
  | zero => omega
  | succ k =>
    have h1 := orgN_le P k
    show (if P.getD k 0 = 0 then k else orgN P k) < k + 1
    split <;> omega
def cntT (T : List UInt8) (c : UInt8) (k : Nat) : Nat := (T.take k).count c
end Go.Proofs.Ytglpbianmbjoeaa
namespace Go.Proofs.Ytglpbianmbjoeaa
open Go.RowKit BwtM SrtM PkM
set_option linter.unusedVariables false
set_option linter.unusedSimpArgs false
def nnbT : ByteArray := ⟨#[110, 110, 98, 97, 97, 97]⟩
theorem nnb_text : unText nnbT 3 = ⟨#[98, 97, 110, 97, 110, 97]⟩ := by kernel_rfl
set_option maxRecDepth 100000 in
set_option maxHeartbeats 4000000 in
theorem banana18_any (w : World) : Calls Try.prog 9 #[] w fun e w' => e = .returned (.bool true) ∧ Below w.heap.size w w' := by
  have H1 : Hid (∀ W, Calls Try.prog 10 #[.string ⟨#[110, 110, 98, 97, 97, 97]⟩, .int .i64 3] W fun e w' => e = .returned (.tuple #[.string ⟨#[98, 97, 110, 97, 110, 97]⟩, .int .i64 0]) ∧ Below W.heap.size W w') := Lib.hid (fun W => by
    have := unof_any nnbT 3 W (by decide) (by decide) (by decide)
    rw [nnb_text] at this
    exact this)
  have H2 : Hid (∀ W, Calls Try.prog 10 #[.string ⟨#[110, 110, 98, 97, 97, 97]⟩, .int .i64 6] W fun e w' => e = .returned (.tuple #[.string ⟨#[]⟩, .int .i64 23]) ∧ ∃ m, w' = W.drewN m) := Lib.hid (fun W => unof_out nnbT 6 W (by decide) (by decide) (Or.inr (by decide)))
  go_enter Try.func9, Try.ntmps9
  go_wp2_with fail
  refine (H1.out _).mono ?_
  rintro e w1 ⟨rfl, hb⟩
  have HB1 := Lib.hid hb
  clear hb
  go_wp2_with fail
  refine (H2.out _).mono ?_
  rintro e w2 ⟨rfl, m, rfl⟩
  have HB2 := Lib.hid (HB1.out.trans (unBelow_drewN _ w1 m))
  go_wp2_with fail
  go_ret
  exact ⟨rfl, HB2.out⟩
set_option maxRecDepth 100000 in
set_option maxHeartbeats 4000000 in
theorem unbwtNil.walk (n : Int) (w : World) (hn : (Lit.int .i64 n).wf = true) :
    Calls Try.prog 8 #[.int .i64 n] w fun e w' => e = .returned (.bool true) ∧ Below w.heap.size w w' := by
  have HBA := Lib.hid (fun W => banana18_any W)
  clear hn
  go_enter Try.func8, Try.ntmps8
  go_wp2_with fail
  refine (unstep_nil _ n).mono ?_
  rintro e w1 ⟨rfl, rfl⟩
  go_wp2_with fail
  refine (untake_nil _).mono ?_
  rintro e w2 ⟨rfl, rfl⟩
  go_wp2_with fail
  refine (unwaiting_nil _).mono ?_
  rintro e w3 ⟨rfl, rfl⟩
  go_wp2_with fail
  refine (undone_nil _).mono ?_
  rintro e w4 ⟨rfl, m, rfl⟩
  have HB4 := Lib.hid (unBelow_drewN w3.heap.size w3 m)
  go_wp2_with fail
  refine (unsteps_nil _).mono ?_
  rintro e w5 ⟨rfl, rfl⟩
  go_wp2_with fail
  refine (unheld_nil _).mono ?_
  rintro e w6 ⟨rfl, rfl⟩
  go_wp2_with fail
  refine (HBA.out _).mono ?_
  rintro e w7 ⟨rfl, hb⟩
  have HB7 := Lib.hid (HB4.out.trans (hb.mono HB4.out.size))
  clear hb
  go_wp2_with fail
  go_ret
  exact ⟨rfl, HB7.out⟩
set_option maxRecDepth 100000 in
set_option maxHeartbeats 8000000 in
theorem unbwtOf.walk (s : ByteArray) (o : Int) (w : World) (hs : s.size ≤ maxLen) (ho : (Lit.int .i64 o).wf = true) :
    Calls Try.prog 3 #[.string s, .int .i64 o] w fun e w' => e = .returned (.bool true) ∧ Below w.heap.size w w' := by
  have HBA := Lib.hid (fun W => banana18_any W)
  clear hs ho
  by_cases hl : 100 < s.size
  · have hli : (100 : Int) < (s.size : Int) := by omega
    go_enter Try.func3, Try.ntmps3
    go_wp2_with fail
    refine (HBA.out _).mono ?_
    rintro e w9 ⟨rfl, hb9⟩
    have HB9 := Lib.hid (hb9)
    clear hb9
    go_wp2_with fail
    go_ret
    exact ⟨rfl, HB9.out⟩
  · have hli : ¬ (100 : Int) < (s.size : Int) := by omega
    have HLK := Lib.hid (fun W => unlinks_any s W (by omega))
    have HRL := Lib.hid (fun W => rlinks_any s W (by omega))
    have HKL := Lib.hid (unlinks_nat s)
    have HIN : Hid (∀ W v u, IsInts W v (toI (UnM.links s.data.toList)) → IsInts W u (toI (UnM.links s.data.toList)) → Calls Try.prog 11 #[v, u] W fun e w' => e = .returned (.bool true) ∧ ∃ n, w' = W.drewN n) := Lib.hid (fun W v u h1 h2 => ints_any v u _ _ true W h1 h2 ⟨fun _ => rfl, fun _ => rfl⟩ (by rw [toI_length, unlinks_nat]; omega) (by rw [toI_length, unlinks_nat]; omega))
    by_cases h0 : s.size = 0
    · have hemp : s.toList.isEmpty = true := by rw [no_bytes s h0, ByteArray.toList_eq]; rfl
      have HOF : Hid (∀ W, Calls Try.prog 10 #[.string s, .int .i64 o] W fun e w' => e = .returned (.tuple #[.string ⟨#[]⟩, .int .i64 1]) ∧ w' = W) := Lib.hid (fun W => by rw [no_bytes s h0]; exact unof_empty o W)
      clear hl h0
      go_enter Try.func3, Try.ntmps3
      go_wp2_with fail
      refine (HOF.out _).mono ?_
      rintro e w1 ⟨rfl, rfl⟩
      go_wp2_with fail
      refine (HLK.out _).mono ?_
      rintro e w2 ⟨g, rfl, hr2, hb2⟩
      have HI2 := Lib.hid (hr2.ints s.size s.size (by rw [toI_length, HKL.out]))
      have HB2 := Lib.hid (hb2)
      clear hr2 hb2
      go_wp2_with fail
      refine (HRL.out _).mono ?_
      rintro e w3 ⟨v3, rfl, ho3, hb3⟩
      have HI3 := Lib.hid (HI2.out.below hb3)
      have HO3 := Lib.hid ho3.ints
      have HB3 := Lib.hid (HB2.out.trans (hb3.mono HB2.out.size))
      clear ho3 hb3
      go_wp2_with fail
      refine (HIN.out _ _ _ HI3.out HO3.out).mono ?_
      rintro e w4 ⟨rfl, m4, rfl⟩
      have HB4 := Lib.hid (HB3.out.trans (unBelow_drewN _ w3 m4))
      go_wp2_with fail
      refine (HBA.out _).mono ?_
      rintro e w9 ⟨rfl, hb9⟩
      have HB9 := Lib.hid (HB4.out.trans (hb9.mono HB4.out.size))
      clear hb9
      go_wp2_with fail
      go_ret
      exact ⟨rfl, HB9.out⟩
    · have hemp := some_bytes s (by omega)
      by_cases hin : 0 ≤ o ∧ o < (s.size : Int)
      · obtain ⟨k, rfl⟩ : ∃ k : Nat, o = (k : Int) := ⟨o.toNat, by omega⟩
        have hk0 : ¬ (k : Int) < 0 := by omega
        have hkn : ¬ (k : Int) ≥ (s.size : Int) := by omega
        have HOF := Lib.hid (fun W => unof_any s k W (by omega) (by omega) (by omega))
        have HRO := Lib.hid (fun W => rof18_any s k W (by omega) (by omega))
        obtain ⟨T, hT⟩ : ∃ T, unText s k = T := ⟨_, rfl⟩
        rw [hT] at HOF HRO
        have hTT : (T.toList == T.toList) = true := list_eq_test T T true ⟨fun _ => rfl, fun _ => rfl⟩
        clear hl hin hT
        go_enter Try.func3, Try.ntmps3
        go_wp2_with fail
        refine (HOF.out _).mono ?_
        rintro e w1 ⟨rfl, hb1⟩
        have HB1 := Lib.hid hb1
        clear hb1
        go_wp2_with fail
        refine (HLK.out _).mono ?_
        rintro e w2 ⟨g, rfl, hr2, hb2⟩
        have HI2 := Lib.hid (hr2.ints s.size s.size (by rw [toI_length, HKL.out]))
        have HB2 := Lib.hid (HB1.out.trans (hb2.mono HB1.out.size))
        clear hr2 hb2
        go_wp2_with fail
        refine (HRL.out _).mono ?_
        rintro e w3 ⟨v3, rfl, ho3, hb3⟩
        have HI3 := Lib.hid (HI2.out.below hb3)
        have HO3 := Lib.hid ho3.ints
        have HB3 := Lib.hid (HB2.out.trans (hb3.mono HB2.out.size))
        clear ho3 hb3
        go_wp2_with fail
        refine (HIN.out _ _ _ HI3.out HO3.out).mono ?_
        rintro e w4 ⟨rfl, m4, rfl⟩
        have HB4 := Lib.hid (HB3.out.trans (unBelow_drewN _ w3 m4))
        go_wp2_with fail
        refine (HRO.out _).mono ?_
        rintro e w5 ⟨rfl, hb5⟩
        have HB5 := Lib.hid (HB4.out.trans (hb5.mono HB4.out.size))
        clear hb5
        go_wp2_with fail
        refine (HBA.out _).mono ?_
        rintro e w9 ⟨rfl, hb9⟩
        have HB9 := Lib.hid (HB5.out.trans (hb9.mono HB5.out.size))
        clear hb9
        go_wp2_with fail
        go_ret
        exact ⟨rfl, HB9.out⟩
      · have ho2 : o < 0 ∨ (s.size : Int) ≤ o := by omega
        have HOF := Lib.hid (fun W => unof_out s o W (by omega) (by omega) ho2)
        by_cases hneg : o < 0
        · clear hl hin ho2
          go_enter Try.func3, Try.ntmps3
          go_wp2_with fail
          refine (HOF.out _).mono ?_
          rintro e w1 ⟨rfl, m1, rfl⟩
          have HB1 := Lib.hid (unBelow_drewN w.heap.size w m1)
          go_wp2_with fail
          refine (HLK.out _).mono ?_
          rintro e w2 ⟨g, rfl, hr2, hb2⟩
          have HI2 := Lib.hid (hr2.ints s.size s.size (by rw [toI_length, HKL.out]))
          have HB2 := Lib.hid (HB1.out.trans (hb2.mono HB1.out.size))
          clear hr2 hb2
          go_wp2_with fail
          refine (HRL.out _).mono ?_
          rintro e w3 ⟨v3, rfl, ho3, hb3⟩
          have HI3 := Lib.hid (HI2.out.below hb3)
          have HO3 := Lib.hid ho3.ints
          have HB3 := Lib.hid (HB2.out.trans (hb3.mono HB2.out.size))
          clear ho3 hb3
          go_wp2_with fail
          refine (HIN.out _ _ _ HI3.out HO3.out).mono ?_
          rintro e w4 ⟨rfl, m4, rfl⟩
          have HB4 := Lib.hid (HB3.out.trans (unBelow_drewN _ w3 m4))
          go_wp2_with fail
          refine (HBA.out _).mono ?_
          rintro e w9 ⟨rfl, hb9⟩
          have HB9 := Lib.hid (HB4.out.trans (hb9.mono HB4.out.size))
          clear hb9
          go_wp2_with fail
          go_ret
          exact ⟨rfl, HB9.out⟩
        · have hge : o ≥ (s.size : Int) := by omega
          clear hl hin ho2
          go_enter Try.func3, Try.ntmps3
          go_wp2_with fail
          refine (HOF.out _).mono ?_
          rintro e w1 ⟨rfl, m1, rfl⟩
          have HB1 := Lib.hid (unBelow_drewN w.heap.size w m1)
          go_wp2_with fail
          refine (HLK.out _).mono ?_
          rintro e w2 ⟨g, rfl, hr2, hb2⟩
          have HI2 := Lib.hid (hr2.ints s.size s.size (by rw [toI_length, HKL.out]))
          have HB2 := Lib.hid (HB1.out.trans (hb2.mono HB1.out.size))
          clear hr2 hb2
          go_wp2_with fail
          refine (HRL.out _).mono ?_
          rintro e w3 ⟨v3, rfl, ho3, hb3⟩
          have HI3 := Lib.hid (HI2.out.below hb3)
          have HO3 := Lib.hid ho3.ints
          have HB3 := Lib.hid (HB2.out.trans (hb3.mono HB2.out.size))
          clear ho3 hb3
          go_wp2_with fail
          refine (HIN.out _ _ _ HI3.out HO3.out).mono ?_
          rintro e w4 ⟨rfl, m4, rfl⟩
          have HB4 := Lib.hid (HB3.out.trans (unBelow_drewN _ w3 m4))
          go_wp2_with fail
          refine (HBA.out _).mono ?_
          rintro e w9 ⟨rfl, hb9⟩
          have HB9 := Lib.hid (HB4.out.trans (hb9.mono HB4.out.size))
          clear hb9
          go_wp2_with fail
          go_ret
          exact ⟨rfl, HB9.out⟩
/-! ### UnbwtBack -/
theorem orgN_zero (P : List Nat) : ∀ k, (∃ j, j < k ∧ P.getD j 0 = 0) → P.getD (orgN P k) 0 = 0
  | 0, h => by obtain ⟨j, h1, _⟩ := h; omega
  | k + 1, h => by
    show P.getD (if P.getD k 0 = 0 then k else orgN P k) 0 = 0
    by_cases e : P.getD k 0 = 0
    · rw [if_pos e]; exact e
    · rw [if_neg e]
      obtain ⟨j, h1, h2⟩ := h
      refine orgN_zero P k ⟨j, ?_, h2⟩
      rcases Nat.lt_or_ge j k with h3 | h3
      · exact h3
      · obtain rfl : j = k := by omega
        exact absurd h2 e
theorem back_text (s : ByteArray) (P : List Nat) (h0 : 0 < s.size) (hP : IsSorted s.data.toList P) : unText ⟨(lastN s.data.toList P s.size).toArray⟩ (orgN P s.size) = s := by
  have hl := un_len s
  have hlp : P.length = s.size := by rw [hP.1.length_eq, List.length_range, hl]
  have e1 : lastN s.data.toList P s.size = lasts s.data.toList P := lastN_lasts hl hP
  have hz : P.getD (orgN P s.size) 0 = 0 := by
    refine orgN_zero P s.size ?_
    have hm : (0 : Nat) ∈ P := hP.1.mem_iff.2 (List.mem_range.2 (by omega))
    obtain ⟨j, h1, h2⟩ := List.getElem_of_mem hm
    exact ⟨j, by omega, by rw [List.getD_eq_getElem?_getD, List.getElem?_eq_getElem h1]; exact h2⟩
  have ho : orgN P s.size < s.data.toList.length := by rw [hl]; exact orgN_lt P h0
  have hll : (lasts s.data.toList P).length = s.size := by rw [← e1, lastN_len (by omega)]
  have hb := back (by rw [hl]; exact h0) hP.ord (UnM.links_is (lasts s.data.toList P)) ho hz
  unfold unText
  have hsz : (⟨(lastN s.data.toList P s.size).toArray⟩ : ByteArray).size = s.size := by rw [text_size, e1, hll]
  rw [hsz]
  show (⟨(BwtM.follow (lastN s.data.toList P s.size) (UnM.links (lastN s.data.toList P s.size)) s.size (orgN P s.size)).toArray⟩ : ByteArray) = s
  rw [hl] at hb
  rw [e1, hb]
set_option maxRecDepth 100000 in
set_option maxHeartbeats 8000000 in
theorem unbwtBack.walk (s : ByteArray) (w : World) (hs : s.size ≤ maxLen) :
    Calls Try.prog 4 #[.string s] w fun e w' => e = .returned (.bool true) ∧ Below w.heap.size w w' := by
  have HBA := Lib.hid (fun W => banana18_any W)
  clear hs
  by_cases hl : 60 < s.size
  · have hli : (60 : Int) < (s.size : Int) := by omega
    go_enter Try.func4, Try.ntmps4
    go_wp2_with fail
    refine (HBA.out _).mono ?_
    rintro e w9 ⟨rfl, hb9⟩
    have HB9 := Lib.hid (hb9)
    clear hb9
    go_wp2_with fail
    go_ret
    exact ⟨rfl, HB9.out⟩
  · have hli : ¬ (60 : Int) < (s.size : Int) := by omega
    by_cases h0 : s.size = 0
    · obtain rfl := no_bytes s h0
      clear hl hli h0
      go_enter Try.func4, Try.ntmps4
      go_wp2_with fail
      refine (HBA.out _).mono ?_
      rintro e w9 ⟨rfl, hb9⟩
      have HB9 := Lib.hid (hb9)
      clear hb9
      go_wp2_with fail
      go_ret
      exact ⟨rfl, HB9.out⟩
    · have hemp := some_bytes s (by omega)
      have HRO := Lib.hid (fun W => rof_any s s.size W rfl (by omega) (by omega))
      have HBK := Lib.hid (fun P hP => back_text s P (by omega) hP)
      have HOG : Hid (∀ P, orgN P s.size < s.size) := Lib.hid (fun P => orgN_lt P (by omega))
      have HSZ : Hid (0 < s.size ∧ s.size ≤ 60) := Lib.hid (by omega)
      clear hl h0
      go_enter Try.func4, Try.ntmps4
      go_wp2_with fail
      refine (HRO.out _).mono ?_
      rintro e w1 ⟨⟨P, hP, rfl⟩, hb1⟩
      have HB1 := Lib.hid hb1
      have hbk := HBK.out P hP
      have hog := HOG.out P
      obtain ⟨L, hL⟩ : ∃ L : ByteArray, (⟨(lastN s.data.toList P s.size).toArray⟩ : ByteArray) = L := ⟨_, rfl⟩
      have hLs : L.size = s.size := by
        have hlp : P.length = s.size := by rw [hP.1.length_eq, List.length_range]; simp
        rw [← hL, text_size, lastN_len (by omega)]
      obtain ⟨og, hoe⟩ : ∃ og, orgN P s.size = og := ⟨_, rfl⟩
      rw [hL, hoe] at hbk ⊢
      rw [hoe] at hog
      have hsz := HSZ.out
      have HOF := Lib.hid (fun W => unof_any L og W (by omega) (by omega) (by omega))
      rw [hbk] at HOF
      obtain ⟨c0, c1⟩ := turned_box w1 L (og : Int)
      have hss : (s.toList == s.toList) = true := list_eq_test s s true ⟨fun _ => rfl, fun _ => rfl⟩
      have HB2 : Hid (Below w.heap.size w (w1.alloc (.cells #[.string L, .int .i64 (og : Int)] 32))) := Lib.hid (HB1.out.alloc HB1.out.size _)
      clear hb1 hP hbk hog hL hLs hoe hsz
      go_wp2_with fail
      refine (HOF.out _).mono ?_
      rintro e w3 ⟨rfl, hb3⟩
      have HB3 := Lib.hid (HB2.out.trans (hb3.mono HB2.out.size))
      clear hb3
      go_wp2_with fail
      refine (HBA.out _).mono ?_
      rintro e w9 ⟨rfl, hb9⟩
      have HB9 := Lib.hid (HB3.out.trans (hb9.mono HB3.out.size))
      clear hb9
      go_wp2_with fail
      go_ret
      exact ⟨rfl, HB9.out⟩
end Go.Proofs.Ytglpbianmbjoeaa
namespace Go.Proofs.Ytglpbianmbjoeaa
open Go.RowKit BwtM SrtM PkM
set_option linter.unusedVariables false
set_option linter.unusedSimpArgs false
/-- A row of bytes: a whole block. -/
def RowB (w : World) (g : Nat) (l : List UInt8) : Prop := w.heap[g]? = some (.cells (l.map u8v).toArray 5 (0, 0))
theorem RowB.cell {w : World} {g : Nat} {l : List UInt8} (h : RowB w g l) {i : Nat} (hi : i < l.length) : w.cell? ⟨g, i, none⟩ = some (u8v (l.getD i 0)) ∧ w.frozen? ⟨g, i, none⟩ = false ∧
    ∀ x : UInt8, RowB (w.setCell ⟨g, i, none⟩ (u8v x)) g (l.set i x) := by
  refine ⟨?_, frozen_of_row _ _ _ _ _ h, fun x => ?_⟩
  · rw [cell_of_row _ _ _ _ _ _ h]
    simp [List.getD_eq_getElem?_getD, hi]
  · unfold RowB
    rw [heap_setCell_same w g i _ _ _ h]
    congr 2
    apply Array.toList_inj.1
    simp [List.map_set]
theorem RowB.conv {w : World} {g k cap : Nat} {l : List UInt8} (h : RowB w g l) (hk : k = l.length) : (convert 47 9 (.slice (some ⟨g, 0, none⟩) k cap)).run Try.prog w = .ok (.string ⟨l.toArray⟩) w :=
  bytes_conv w g cap l k hk (fun j x hj => by
    have hl : j < l.length := (List.getElem?_eq_some_iff.1 hj).1
    rw [(h.cell hl).1, List.getD_eq_getElem?_getD, hj]
    rfl)
theorem RowB.below {w w' : World} {g : Nat} {l : List UInt8} (h : RowB w g l) (hb : Below w.heap.size w w') : RowB w' g l := (hb.block g (Array.getElem?_eq_some_iff.1 h).1).trans h
set_option maxHeartbeats 1000000 in
theorem make_bytes (n : Nat) (hn : n ≤ 1000000) (W : World) : (Instr.makeSlice 47 (.int .i64 (n : Int)) (.int .i64 (n : Int))).run Try.prog W = .ok (.slice (some ⟨W.heap.size, 0, none⟩) n n) (W.alloc (.cells (madeCells #[Value.int .u8 0] n) 5)) := by
  obtain ⟨i0, hi, hz0, hz1, hz2⟩ := info_parts (show (Try.prog.info? 5).map (fun i => (i.zero, i.size, i.bytes)) = some (some (.int .u8 0), 1, 1) by kernel_rfl)
  have := run_make (P := Try.prog) W 47 5 i0 (.int .u8 0) Try.underlying47 hi hz0 .i64 .i64 (n : Int) (n : Int) (by omega) (by omega) (by rw [hz2]; omega) (by omega)
  rw [hz1] at this
  simpa [Value.cells] using this
theorem RowB.made (w : World) (n : Nat) : RowB (w.alloc (.cells (madeCells #[Value.int .u8 0] n) 5)) w.heap.size (List.replicate n 0) := by
  unfold RowB
  rw [heap_alloc_new]
  congr 2
  apply Array.toList_inj.1
  rw [toList_madeCells_one]
  simp [u8v]
def fillB (c : UInt8) (k j : Nat) : List UInt8 := List.replicate j c ++ List.replicate (k - j) 0
theorem fillB_next (c : UInt8) {k j : Nat} (h : j < k) : (fillB c k j).set j c = fillB c k (j + 1) := by
  unfold fillB
  rw [List.set_append_right _ _ (by rw [List.length_replicate]; exact Nat.le_refl _), List.length_replicate, Nat.sub_self, show k - j = (k - (j + 1)) + 1 by omega, List.replicate_succ, List.set_cons_zero, List.replicate_succ', List.append_assoc]
  rfl
theorem fillB_len (c : UInt8) {k j : Nat} (h : j ≤ k) : (fillB c k j).length = k := by unfold fillB; simp; omega
theorem fillB_zero (c : UInt8) (k : Nat) : fillB c k 0 = List.replicate k 0 := by simp [fillB]
theorem StepsOf.two {T : List UInt8} {R : Nat} (h : StepsOf T R) : (R == 0) = decide (T.length < 2) := by
  rcases h with ⟨h1, rfl⟩ | ⟨h1, m, _, rfl⟩
  · simp [h1]
  · have : 0 < each T.length * (m + 1) := Nat.mul_pos (by unfold each; have := passS_pos T.length; omega) (by omega)
    rw [Bool.eq_iff_iff, beq_iff_eq, decide_eq_true_eq]
    omega
end Go.Proofs.Ytglpbianmbjoeaa
namespace Go.Proofs.Ytglpbianmbjoeaa
open Go.RowKit BwtM SrtM PkM
set_option linter.unusedVariables false
set_option linter.unusedSimpArgs false
theorem follow_getD (L : List UInt8) (K : List Nat) : ∀ k o i, i < k → (BwtM.follow L K k o).getD i 0 = L.getD (UnM.plc K o (i + 1)) 0
  | 0, o, i, h => by omega
  | k + 1, o, 0, h => rfl
  | k + 1, o, i + 1, h => by
    show (BwtM.follow L K k (K.getD o 0)).getD i 0 = _
    rw [follow_getD L K k (K.getD o 0) i (by omega), UnM.plc_shift]
set_option maxRecDepth 100000 in
set_option maxHeartbeats 8000000 in
theorem unbwtBytes.walk (s : ByteArray) (o : Int) (w : World) (hs : s.size ≤ maxLen) (ho : (Lit.int .i64 o).wf = true) :
    Calls Try.prog 6 #[.string s, .int .i64 o] w fun e w' => e = .returned (.bool true) ∧ Below w.heap.size w w' := by
  have HBA := Lib.hid (fun W => banana18_any W)
  clear hs ho
  by_cases hl : 200 < s.size
  · have hli : (200 : Int) < (s.size : Int) := by omega
    go_enter Try.func6, Try.ntmps6
    go_wp2_with fail
    refine (HBA.out _).mono ?_
    rintro e w9 ⟨rfl, hb9⟩
    have HB9 := Lib.hid (hb9)
    clear hb9
    go_wp2_with fail
    go_ret
    exact ⟨rfl, HB9.out⟩
  · have hli : ¬ (200 : Int) < (s.size : Int) := by omega
    by_cases hneg : o < 0
    · clear hl
      go_enter Try.func6, Try.ntmps6
      go_wp2_with fail
      refine (HBA.out _).mono ?_
      rintro e w9 ⟨rfl, hb9⟩
      have HB9 := Lib.hid (hb9)
      clear hb9
      go_wp2_with fail
      go_ret
      exact ⟨rfl, HB9.out⟩
    · by_cases hge : o ≥ (s.size : Int)
      · clear hl
        go_enter Try.func6, Try.ntmps6
        go_wp2_with fail
        refine (HBA.out _).mono ?_
        rintro e w9 ⟨rfl, hb9⟩
        have HB9 := Lib.hid (hb9)
        clear hb9
        go_wp2_with fail
        go_ret
        exact ⟨rfl, HB9.out⟩
      · obtain ⟨k, rfl⟩ : ∃ k : Nat, o = (k : Int) := ⟨o.toNat, by omega⟩
        have HOF := Lib.hid (fun W => unof_any s k W (by omega) (by omega) (by omega))
        have HLK := Lib.hid (fun W => unlinks_any s W (by omega))
        have hkl := unlinks_nat s
        have hul := un_len s
        have hut := unText_size s k
        have HOR := Lib.hid (fun W g (h : RowI W g (toI (UnM.links s.data.toList))) => ordered_any g 0 s.size s.size s.size (toI (UnM.links s.data.toList)) true W (h.ints s.size s.size (by rw [toI_length, hkl])) (by rw [toI_length, hkl]) ⟨fun _ => ⟨_, rfl, by rw [← hul]; exact UnM.links_perm _⟩, fun _ => rfl⟩ (by omega) (by omega) (Nat.le_refl _) (by omega))
        have HPL : Hid (∀ j, UnM.plc (UnM.links s.data.toList) k j < s.size) := Lib.hid (fun j => by rw [← hul]; exact UnM.plc_lt (by rw [hul]; omega) j)
        have HBS : Hid (∀ T, unText s k = T → ∀ i (hi : i < T.size), (T[i].toNat : Int) = (UnM.by_ s.data.toList (UnM.plc (UnM.links s.data.toList) k (i + 1)) : Int)) := Lib.hid (fun T hT i hi => by
          subst hT
          rw [at_get (unText s k) hi]
          unfold UnM.by_
          show (((BwtM.follow s.data.toList (UnM.links s.data.toList) s.size k).getD i 0).toNat : Int) = _
          rw [follow_getD _ _ _ _ _ (by omega)])
        obtain ⟨T, hT⟩ : ∃ T, unText s k = T := ⟨_, rfl⟩
        rw [hT] at HOF hut
        have HBT := Lib.hid (HBS.out T hT)
        have hTi : (T.size : Int) = (s.size : Int) := by omega
        have HUT := Lib.hid hut
        clear hl hkl hul hut hT
        go_enter Try.func6, Try.ntmps6
        go_wp2_with fail
        refine (HOF.out _).mono ?_
        rintro e w1 ⟨rfl, hb1⟩
        have HB1 := Lib.hid hb1
        clear hb1
        go_wp2_with fail
        refine (HLK.out _).mono ?_
        rintro e w2 ⟨g, rfl, hr2, hb2⟩
        have HR2 := Lib.hid hr2
        have HB2 := Lib.hid (HB1.out.trans (hb2.mono HB1.out.size))
        clear hr2 hb2
        go_wp2_with fail
        refine (HOR.out _ _ HR2.out).mono ?_
        rintro e w3 ⟨rfl, rfl⟩
        go_wp2_with fail
        go_loopw [49] (fun vi wr => ∃ i m : Nat, vi = .int .i64 (i : Int) ∧ i ≤ s.size ∧ wr = w3.drewN m) (fun vi _ => s.size - (intOf vi).toNat)
        case atStart => exact ⟨0, 0, rfl, by omega, rfl⟩
        case round =>
          obtain ⟨i, m, rfl, hi, rfl⟩ := hrel
          by_cases his : i < s.size
          · have hii : (i : Int) < (s.size : Int) := by omega
            have hiT : i < T.size := by rw [HUT.out]; exact his
            have hiTi : (i : Int) < (T.size : Int) := by omega
            have hbt := HBT.out i hiT
            obtain ⟨p, hp⟩ : ∃ p, UnM.plc (UnM.links s.data.toList) k (i + 1) = p := ⟨_, rfl⟩
            have hps : p < s.size := by rw [← hp]; exact HPL.out (i + 1)
            rw [hp] at hbt
            obtain ⟨c, hc⟩ : ∃ c, UnM.by_ s.data.toList p = c := ⟨_, rfl⟩
            rw [hc] at hbt
            have HC := Lib.hid hc
            clear hp hc
            obtain ⟨wb, hwb⟩ : ∃ wb, w3.drewN m = wb := ⟨_, rfl⟩
            have HWB := Lib.hid hwb
            rw [hwb]
            clear hwb
            go_wp2_with fail
            go_loopw [54, 8] (fun vk vt wr => ∃ (j n : Nat) (b : Bool), vk = .int .i64 (j : Int) ∧ j ≤ s.size ∧ vt = .bool b ∧ (p < j → b = true) ∧ wr = wb.drewN n) (fun vk _ _ => s.size - (intOf vk).toNat)
            case atStart => exact ⟨0, 0, false, rfl, by omega, rfl, fun h => by omega, rfl⟩
            case round =>
              obtain ⟨j, n, b, rfl, hj, rfl, hpb, rfl⟩ := hrel
              have HPB := Lib.hid hpb
              clear hpb
              by_cases hjs : j < s.size
              · have hji : (j : Int) < (s.size : Int) := by omega
                have hat := at_get s hjs
                obtain ⟨d, hd⟩ : ∃ d, UnM.by_ s.data.toList j = d := ⟨_, rfl⟩
                rw [hd] at hat
                have HPD : Hid (j = p → d = c) := Lib.hid (fun e => by rw [← hd, ← HC.out, e])
                clear hd
                cases b with
                | true =>
                  go_wp2_with fail
                  go_quiet (fail)
                  go_wp2_with fail
                  go_roundw
                  case rel => exact ⟨j + 1, _, true, by go_num, by omega, rfl, fun _ => rfl, rfl⟩
                  case measure => simp [intOf]; omega
                | false =>
                  by_cases hdc : d = c
                  · have hE : ((d : Int) == (c : Int)) = true := by rw [beq_iff_eq]; omega
                    clear hdc
                    go_wp2_with fail
                    go_quiet (fail)
                    go_wp2_with fail
                    go_roundw
                    case rel => exact ⟨j + 1, _, true, by go_num, by omega, rfl, fun _ => rfl, rfl⟩
                    case measure => simp [intOf]; omega
                  · have hE : ((d : Int) == (c : Int)) = false := by rw [beq_eq_false_iff_ne]; omega
                    have HN : Hid (¬ p < j + 1) := Lib.hid (fun h => by
                      rcases Nat.lt_or_ge p j with h1 | h1
                      · exact absurd (HPB.out h1) (by simp)
                      · exact hdc (HPD.out (by omega)))
                    clear hdc
                    go_wp2_with fail
                    go_quiet (fail)
                    go_wp2_with fail
                    go_roundw
                    case rel => exact ⟨j + 1, _, false, by go_num, by omega, rfl, fun h => absurd h HN.out, rfl⟩
                    case measure => simp [intOf]; omega
              · have hji : ¬ (j : Int) < (s.size : Int) := by omega
                obtain rfl : b = true := HPB.out (by omega)
                go_wp2_with fail
                go_roundw
                case rel => exact ⟨i + 1, m + n, by go_num, by omega, by rw [← HWB.out]; exact drewN_add _ _ _⟩
                case measure => simp [intOf]; omega
          · have hii : ¬ (i : Int) < (s.size : Int) := by omega
            have HB4 := Lib.hid (HB2.out.trans (unBelow_drewN w.heap.size w3 m))
            go_wp2_with fail
            refine (HBA.out _).mono ?_
            rintro e w9 ⟨rfl, hb9⟩
            have HB9 := Lib.hid (HB4.out.trans (hb9.mono HB4.out.size))
            clear hb9
            go_wp2_with fail
            go_ret
            exact ⟨rfl, HB9.out⟩
set_option maxRecDepth 100000 in
set_option maxHeartbeats 8000000 in
theorem unbwtLong.walk (n o : Int) (w : World) (hn : (Lit.int .u32 n).wf = true) (ho : (Lit.int .i64 o).wf = true) :
    Calls Try.prog 7 #[.int .u32 n, .int .i64 o] w fun e w' => e = .returned (.bool true) ∧ Below w.heap.size w w' := by
  have hn2 : 0 ≤ n ∧ n ≤ 4294967295 := by simpa [Lit.wf, IntKind.min, IntKind.max, IntKind.signed, IntKind.bits] using hn
  have HBA := Lib.hid (fun W => banana18_any W)
  obtain ⟨k, hk⟩ : ∃ k : Nat, n % 900100 = (k : Int) := ⟨(n % 900100).toNat, by omega⟩
  have hkt : n.tmod 900100 = (k : Int) := by rw [Int.tmod_eq_emod_of_nonneg hn2.1]; exact hk
  have hku : IntKind.u32.wrap (k : Int) = (k : Int) := by simp [IntKind.wrap, IntKind.bits, IntKind.signed]; omega
  have hki : IntKind.i64.wrap (k : Int) = (k : Int) := IntWalk.i64_in _ (by omega)
  have hkb : k < 900100 := by omega
  have hmk := make_bytes k (by omega)
  clear hn ho
  by_cases hmid : 3000 < k ∧ k ≤ 900000
  · have h1 : (3000 : Int) < (k : Int) := by omega
    have h2 : (k : Int) ≤ 900000 := by omega
    clear hmid hmk
    go_enter Try.func7, Try.ntmps7
    go_wp2_with fail
    refine (HBA.out _).mono ?_
    rintro e w9 ⟨rfl, hb9⟩
    have HB9 := Lib.hid (hb9)
    clear hb9
    go_wp2_with fail
    go_ret
    exact ⟨rfl, HB9.out⟩
  · have HB0 : Hid (Below w.heap.size w (w.alloc (.cells (madeCells #[Value.int .u8 0] k) 5))) := Lib.hid ((Below.refl _ _).alloc (Nat.le_refl _) _)
    have hcv := (RowB.made w k).conv (k := k) (cap := k) (by rw [List.length_replicate])
    obtain ⟨t, ht⟩ : ∃ t : ByteArray, (⟨(List.replicate k (0 : UInt8)).toArray⟩ : ByteArray) = t := ⟨_, rfl⟩
    rw [ht] at hcv
    have hts : t.size = k := by rw [← ht, text_size, List.length_replicate]
    clear ht
    by_cases hneg : o < 0
    · have hx := hneg
      by_cases h3 : 3000 < k
      · have h1 : (3000 : Int) < (k : Int) := by omega
        have h2 : ¬ (k : Int) ≤ 900000 := by omega
        have h2g : (900000 : Int) < (k : Int) := by omega
        have h4 : ((k : Int) == 0) = false := by rw [beq_eq_false_iff_ne]; omega
        have HC1 := Lib.hid (fun W => unnew_long t o W (by omega))
        clear hmid hts
        go_enter Try.func7, Try.ntmps7
        go_wp2_with fail
        refine (HC1.out _).mono ?_
        rintro e w1 ⟨rfl, rfl⟩
        go_wp2_with fail
        refine (HBA.out _).mono ?_
        rintro e w9 ⟨rfl, hb9⟩
        have HB9 := Lib.hid (HB0.out.trans (hb9.mono HB0.out.size))
        clear hb9
        go_wp2_with fail
        go_ret
        exact ⟨rfl, HB9.out⟩
      · have h1 : ¬ (3000 : Int) < (k : Int) := by omega
        have h2g : ¬ (900000 : Int) < (k : Int) := by omega
        by_cases h0 : k = 0
        · obtain rfl := no_bytes t (by omega)
          have h4 : ((k : Int) == 0) = true := by rw [beq_iff_eq]; omega
          clear h0
          have HC1 := Lib.hid (fun W => unnew_empty o W)
          clear hmid hts
          go_enter Try.func7, Try.ntmps7
          go_wp2_with fail
          refine (HC1.out _).mono ?_
          rintro e w1 ⟨rfl, rfl⟩
          go_wp2_with fail
          refine (HBA.out _).mono ?_
          rintro e w9 ⟨rfl, hb9⟩
          have HB9 := Lib.hid (HB0.out.trans (hb9.mono HB0.out.size))
          clear hb9
          go_wp2_with fail
          go_ret
          exact ⟨rfl, HB9.out⟩
        · have h4 : ((k : Int) == 0) = false := by rw [beq_eq_false_iff_ne]; omega
          have HC1 := Lib.hid (fun W => unnew_out t o W (by omega) (by omega) (Or.inl hneg))
          clear hmid hts
          go_enter Try.func7, Try.ntmps7
          go_wp2_with fail
          refine (HC1.out _).mono ?_
          rintro e w1 ⟨rfl, m, rfl⟩
          have HB1 := Lib.hid (HB0.out.trans (unBelow_drewN w.heap.size _ m))
          go_wp2_with fail
          refine (HBA.out _).mono ?_
          rintro e w9 ⟨rfl, hb9⟩
          have HB9 := Lib.hid (HB1.out.trans (hb9.mono HB1.out.size))
          clear hb9
          go_wp2_with fail
          go_ret
          exact ⟨rfl, HB9.out⟩
    · by_cases hge : o ≥ (k : Int)
      · have hx := hge
        by_cases h3 : 3000 < k
        · have h1 : (3000 : Int) < (k : Int) := by omega
          have h2 : ¬ (k : Int) ≤ 900000 := by omega
          have h2g : (900000 : Int) < (k : Int) := by omega
          have h4 : ((k : Int) == 0) = false := by rw [beq_eq_false_iff_ne]; omega
          have HC1 := Lib.hid (fun W => unnew_long t o W (by omega))
          clear hmid hts
          go_enter Try.func7, Try.ntmps7
          go_wp2_with fail
          refine (HC1.out _).mono ?_
          rintro e w1 ⟨rfl, rfl⟩
          go_wp2_with fail
          refine (HBA.out _).mono ?_
          rintro e w9 ⟨rfl, hb9⟩
          have HB9 := Lib.hid (HB0.out.trans (hb9.mono HB0.out.size))
          clear hb9
          go_wp2_with fail
          go_ret
          exact ⟨rfl, HB9.out⟩
        · have h1 : ¬ (3000 : Int) < (k : Int) := by omega
          have h2g : ¬ (900000 : Int) < (k : Int) := by omega
          by_cases h0 : k = 0
          · obtain rfl := no_bytes t (by omega)
            have h4 : ((k : Int) == 0) = true := by rw [beq_iff_eq]; omega
            clear h0
            have HC1 := Lib.hid (fun W => unnew_empty o W)
            clear hmid hts
            go_enter Try.func7, Try.ntmps7
            go_wp2_with fail
            refine (HC1.out _).mono ?_
            rintro e w1 ⟨rfl, rfl⟩
            go_wp2_with fail
            refine (HBA.out _).mono ?_
            rintro e w9 ⟨rfl, hb9⟩
            have HB9 := Lib.hid (HB0.out.trans (hb9.mono HB0.out.size))
            clear hb9
            go_wp2_with fail
            go_ret
            exact ⟨rfl, HB9.out⟩
          · have h4 : ((k : Int) == 0) = false := by rw [beq_eq_false_iff_ne]; omega
            have HC1 := Lib.hid (fun W => unnew_out t o W (by omega) (by omega) (Or.inr (by omega)))
            clear hmid hts
            go_enter Try.func7, Try.ntmps7
            go_wp2_with fail
            refine (HC1.out _).mono ?_
            rintro e w1 ⟨rfl, m, rfl⟩
            have HB1 := Lib.hid (HB0.out.trans (unBelow_drewN w.heap.size _ m))
            go_wp2_with fail
            refine (HBA.out _).mono ?_
            rintro e w9 ⟨rfl, hb9⟩
            have HB9 := Lib.hid (HB1.out.trans (hb9.mono HB1.out.size))
            clear hb9
            go_wp2_with fail
            go_ret
            exact ⟨rfl, HB9.out⟩
      · obtain ⟨p, rfl⟩ : ∃ p : Nat, o = (p : Int) := ⟨o.toNat, by omega⟩
        by_cases h3 : 3000 < k
        · have h1 : (3000 : Int) < (k : Int) := by omega
          have h2 : ¬ (k : Int) ≤ 900000 := by omega
          have h2g : (900000 : Int) < (k : Int) := by omega
          have h4 : ((k : Int) == 0) = false := by rw [beq_eq_false_iff_ne]; omega
          have HC1 := Lib.hid (fun W => unnew_long t (p : Int) W (by omega))
          clear hmid hts
          go_enter Try.func7, Try.ntmps7
          go_wp2_with fail
          refine (HC1.out _).mono ?_
          rintro e w1 ⟨rfl, rfl⟩
          go_wp2_with fail
          refine (HBA.out _).mono ?_
          rintro e w9 ⟨rfl, hb9⟩
          have HB9 := Lib.hid (HB0.out.trans (hb9.mono HB0.out.size))
          clear hb9
          go_wp2_with fail
          go_ret
          exact ⟨rfl, HB9.out⟩
        · have h1 : ¬ (3000 : Int) < (k : Int) := by omega
          have h2g : ¬ (900000 : Int) < (k : Int) := by omega
          by_cases h0 : k = 0
          · obtain rfl := no_bytes t (by omega)
            have h4 : ((k : Int) == 0) = true := by rw [beq_iff_eq]; omega
            clear h0
            have HC1 := Lib.hid (fun W => unnew_empty (p : Int) W)
            clear hmid hts
            go_enter Try.func7, Try.ntmps7
            go_wp2_with fail
            refine (HC1.out _).mono ?_
            rintro e w1 ⟨rfl, rfl⟩
            go_wp2_with fail
            refine (HBA.out _).mono ?_
            rintro e w9 ⟨rfl, hb9⟩
            have HB9 := Lib.hid (HB0.out.trans (hb9.mono HB0.out.size))
            clear hb9
            go_wp2_with fail
            go_ret
            exact ⟨rfl, HB9.out⟩
          · have h4 : ((k : Int) == 0) = false := by rw [beq_eq_false_iff_ne]; omega
            have HC1 := Lib.hid (fun W => unnew_any t p W (by omega) (by omega) (by omega))
            clear hmid hts
            go_enter Try.func7, Try.ntmps7
            go_wp2_with fail
            refine (HC1.out _).mono ?_
            rintro e w1 ⟨b, g, rfl, _, hb1⟩
            have HB1 := Lib.hid (HB0.out.trans (hb1.mono HB0.out.size))
            clear hb1
            go_wp2_with fail
            refine (HBA.out _).mono ?_
            rintro e w9 ⟨rfl, hb9⟩
            have HB9 := Lib.hid (HB1.out.trans (hb9.mono HB1.out.size))
            clear hb9
            go_wp2_with fail
            go_ret
            exact ⟨rfl, HB9.out⟩
end Go.Proofs.Ytglpbianmbjoeaa
namespace Go.Proofs.Ytglpbianmbjoeaa
namespace Opn
open Go.ChangeShapes Go.WideShapes Go.ChangeAt Go.RowKit Go.Deep

/-- What a cell is. -/
inductive Kd where
  | int (k : IntKind)
  | bool
  | str
  | sl (e : TypeId)

section
variable (P : Program)
def joined (f : TypeId → Option (List Kd)) : Nat → List (Nat × TypeId) → Option (List Kd)
  | _, [] => some []
  | at_, (o, t) :: rest =>
    match f t, joined f (at_ + P.cellsOf t) rest with
    | some l, some r => if o = at_ ∧ l.length = P.cellsOf t then some (l ++ r) else none
    | _, _ => none
def whole (t : TypeId) : Option (List Kd) → Option (List Kd)
  | some l => if l.length = P.cellsOf t then some l else none
  | none => none
/-- The kinds of a type's cells, one behind the other. -/
def kinds : Nat → TypeId → Option (List Kd)
  | 0, _ => none
  | n + 1, t =>
    match P.underlying t with
    | some (.int k) => some [.int k]
    | some .bool => some [.bool]
    | some .string => some [.str]
    | some (.slice e) => some [.sl e]
    | some (.struct fs) => whole P t (joined P (kinds n) 0 (fs.toList.map fun f => (f.offset, f.type)))
    | some (.array m e) => whole P t (joined P (kinds n) 0 ((List.range m).map fun i => (i * P.cellsOf e, e)))
    | _ => none
end

theorem whole_some {P : Program} {t : TypeId} {o : Option (List Kd)} {ks : List Kd} (h : whole P t o = some ks) : o = some ks ∧ ks.length = P.cellsOf t := by
  cases o with
  | none => cases h
  | some l =>
    unfold whole at h
    split at h
    · rename_i l' e
      cases e
      split at h
      · rename_i hl
        cases h
        exact ⟨rfl, hl⟩
      · cases h
    · cases h

section
variable {H : Type} {enc : TypeId × Value → H} {P : Program} {w : World} {spare : Nat → Bool}

/-- What is known of a cell of a kind. -/
def CellOk (enc : TypeId × Value → H) (P : Program) (w : World) (spare : Nat → Bool) : Kd → Value → Prop
  | .int k, v => ∃ n, v = .int k n ∧ (Lit.int k n).wf = true
  | .bool, v => ∃ b, v = .bool b
  | .str, v => ∃ s : ByteArray, v = .string s ∧ s.size ≤ maxLen
  | .sl e, v => v = .slice none 0 0 ∨ ∃ (a : Addr) (len cap n : Nat), v = .slice (some a) len cap ∧ len ≤ cap ∧ cap ≤ maxLen ∧
      ∀ i, i < len → ∃ cs x, w.cells? 0 (a.add (i * P.cellsOf e)) (P.cellsOf e) = some cs ∧ DataW.trod enc P w 0 spare true n e cs = some x
def AllOk (enc : TypeId × Value → H) (P : Program) (w : World) (spare : Nat → Bool) : List Kd → List Value → Prop
  | [], [] => True
  | k :: ks, v :: vs => CellOk enc P w spare k v ∧ AllOk enc P w spare ks vs
  | _, _ => False
theorem AllOk.append : ∀ {ks ls : List Kd} {vs us : List Value}, AllOk enc P w spare ks vs → AllOk enc P w spare ls us → AllOk enc P w spare (ks ++ ls) (vs ++ us)
  | [], _, [], _, _, h => h
  | _ :: _, _, _ :: _, _, h, k => ⟨h.1, AllOk.append h.2 k⟩
  | [], _, _ :: _, _, h, _ => h.elim
  | _ :: _, _, [], _, h, _ => h.elim
theorem AllOk.length : ∀ {ks : List Kd} {vs : List Value}, AllOk enc P w spare ks vs → vs.length = ks.length
  | [], [], _ => rfl
  | _ :: _, _ :: _, h => by simpa using AllOk.length h.2
  | [], _ :: _, h => h.elim
  | _ :: _, [], h => h.elim

theorem joined_ok {n : Nat} (ih : ∀ t ks cs x, kinds P n t = some ks → (∃ m, DataW.trod enc P w 0 spare true m t cs = some x) → AllOk enc P w spare ks cs) :
    ∀ (ps : List (Nat × TypeId)) (at_ : Nat) (ks : List Kd) (cs : List Value), joined P (kinds P n) at_ ps = some ks → (∀ p ∈ ps, ∃ m x, DataW.trod enc P w 0 spare true m p.2 ((cs.drop p.1).take (P.cellsOf p.2)) = some x) →
      cs.length = at_ + ks.length → AllOk enc P w spare ks (cs.drop at_)
  | [], at_, ks, cs, h, _, hl => by
    obtain rfl : ks = [] := by simpa [joined] using h.symm
    rw [List.drop_of_length_le (by simpa using Nat.le_of_eq hl)]
    trivial
  | (o, t) :: rest, at_, ks, cs, h, hp, hl => by
    unfold joined at h
    split at h
    · rename_i l r hf hr
      split at h
      · rename_i hc
        obtain ⟨rfl, hlen⟩ := hc
        obtain rfl : l ++ r = ks := by simpa using h
        obtain ⟨m, x, hx⟩ := hp (o, t) (by simp)
        have h1 := ih t l _ x hf ⟨m, hx⟩
        have h2 := joined_ok ih rest (o + P.cellsOf t) r cs hr (fun p hp' => hp p (List.mem_cons_of_mem _ hp')) (by simp at hl; omega)
        have : cs.drop o = (cs.drop o).take (P.cellsOf t) ++ cs.drop (o + P.cellsOf t) := by
          rw [← List.drop_drop]; exact (List.take_append_drop _ _).symm
        rw [this]
        exact h1.append h2
      · cases h
    · cases h

/-- A READING SAYS OF EACH CELL WHAT IT IS. -/
theorem ok_of_trod : ∀ (n : Nat) (t : TypeId) (ks : List Kd) (cs : List Value) (x : DataW H × List MemPlace), kinds P n t = some ks → (∃ m, DataW.trod enc P w 0 spare true m t cs = some x) → AllOk enc P w spare ks cs
  | 0, _, _, _, _, h, _ => by simp [kinds] at h
  | n + 1, t, ks, cs, x, h, ⟨m, hx⟩ => by
    unfold kinds at h
    split at h
    · rename_i k hu
      obtain rfl : [Kd.int k] = ks := by simpa using h
      obtain ⟨q, rfl, _, hw⟩ := DataW.trod_int hu hx
      exact ⟨⟨q, rfl, hw⟩, trivial⟩
    · rename_i hu
      obtain rfl : [Kd.bool] = ks := by simpa using h
      obtain ⟨b, rfl, _⟩ := DataW.trod_bool hu hx
      exact ⟨⟨b, rfl⟩, trivial⟩
    · rename_i hu
      obtain rfl : [Kd.str] = ks := by simpa using h
      obtain ⟨s, rfl, _, hs⟩ := DataW.trod_string hu hx
      exact ⟨⟨s, rfl, hs⟩, trivial⟩
    · rename_i e hu
      obtain rfl : [Kd.sl e] = ks := by simpa using h
      rcases open_slice hu hx with ⟨rfl, _⟩ | ⟨a, len, cap, mm, q, D, Pl, rfl, _, hl, hm, hmm, _, hi⟩
      · exact ⟨Or.inl rfl, trivial⟩
      · refine ⟨Or.inr ⟨a, len, cap, q, rfl, hl, hm, fun i hi' => ?_⟩, trivial⟩
        obtain ⟨cs', h1, h2⟩ := hi i (by rw [hmm]; split <;> omega)
        exact ⟨cs', _, h1, h2⟩
    · rename_i fs hu
      obtain ⟨xs, q, _, _, hl, hxs, hf⟩ := DataW.trod_struct hu hx
      obtain ⟨h, hlen⟩ := whole_some h
      have := joined_ok (cs := cs) (ok_of_trod n) (fs.toList.map fun f => (f.offset, f.type)) 0 ks h (fun p hp => by
        obtain ⟨f, hfm, rfl⟩ := List.mem_map.1 hp
        obtain ⟨i, hi, hfi⟩ := List.getElem_of_mem hfm
        have hfi' : fs[i]? = some f := by
          rw [← hfi, Array.getElem_toList]
          exact Array.getElem?_eq_getElem (by simpa using hi)
        have := hf i f hfi'
        have hi2 : i < xs.length := by rw [hxs]; simpa using hi
        rw [List.getElem?_eq_getElem hi2] at this
        exact ⟨q, _, this⟩)
      simpa using this (by rw [hl, hlen, Nat.zero_add])
    · rename_i m' e hu
      obtain ⟨xs, q, _, _, hl, hxs, hf⟩ := DataW.trod_array hu hx
      obtain ⟨h, hlen⟩ := whole_some h
      have := joined_ok (cs := cs) (ok_of_trod n) ((List.range m').map fun i => (i * P.cellsOf e, e)) 0 ks h (fun p hp => by
        obtain ⟨i, hi, rfl⟩ := List.mem_map.1 hp
        have hi' : i < m' := List.mem_range.1 hi
        have := hf i hi'
        rw [List.getElem?_eq_getElem (by omega)] at this
        exact ⟨q, _, this⟩)
      simpa using this (by rw [hl, hlen, Nat.zero_add])
    · cases h

/-- A STRUCT OR AN ARRAY BY VALUE, OPENED. -/
theorem open_flat {W : World} {base : Nat} {t : TypeId} {v : Value} {d : DataW H} {p : List MemPlace} (n : Nat) (ks : List Kd) (hk : kinds P n t = some ks) (hu : (match P.underlying t with | some (.struct _) | some (.array _ _) => true | _ => false) = true)
    (hv : Value.okWide P W .any base t v) (h : DataW.Trod enc P W 0 (fun _ => true) true t v d p) : ∃ cs : Array Value, v = .agg cs ∧ AllOk enc P W (fun _ => true) ks cs.toList := by
  obtain ⟨fuel, hf⟩ := h
  unfold Value.okWide at hv
  split at hv
  · obtain ⟨cs, rfl, _, _⟩ := hv
    exact ⟨cs, rfl, ok_of_trod n t ks _ _ hk ⟨fuel, hf⟩⟩
  · obtain ⟨cs, rfl, _, _⟩ := hv
    exact ⟨cs, rfl, ok_of_trod n t ks _ _ hk ⟨fuel, hf⟩⟩
  · rename_i h1 h2
    split at hu <;> simp_all
/-- A CELL OF WHATEVER KIND, OPENED. -/
theorem open_cell {W : World} {base : Nat} {t : TypeId} {v : Value} {d : DataW H} {p : List MemPlace} (k : Kd) (hk : kinds P 1 t = some [k])
    (_hv : Value.okWide P W .any base t v) (h : DataW.Trod enc P W 0 (fun _ => true) true t v d p) (hc : v.cells = #[v]) : CellOk enc P W (fun _ => true) k v := by
  obtain ⟨fuel, hf⟩ := h
  rw [hc] at hf
  exact (ok_of_trod 1 t [k] _ _ hk ⟨fuel, hf⟩).1

/-- WHAT A WALK IS TOLD OF A SLICE THAT CAME IN: its elements' cells, m of them an element, are those that 'cells' says of the list. -/
def IsElems {α : Type} (w : World) (a : Option Addr) (len m : Nat) (cells : α → List Value) (l : List α) : Prop :=
  l.length = len ∧ ∀ i x, l[i]? = some x → ∃ b off, a = some ⟨b, off, none⟩ ∧ b < w.heap.size ∧ ∀ j u, (cells x)[j]? = some u → w.cell? ⟨b, off + i * m + j, none⟩ = some u
theorem choose_list {α : Type} {p : Nat → α → Prop} : ∀ (n : Nat), (∀ i, i < n → ∃ x, p i x) → ∃ l : List α, l.length = n ∧ ∀ i x, l[i]? = some x → p i x
  | 0, _ => ⟨[], rfl, fun i x h => by simp at h⟩
  | n + 1, h => by
    obtain ⟨l, hl, hp⟩ := choose_list n (fun i hi => h i (by omega))
    obtain ⟨x, hx⟩ := h n (by omega)
    refine ⟨l ++ [x], by simp [hl], fun i y hy => ?_⟩
    by_cases hi : i < n
    · rw [List.getElem?_append_left (by omega)] at hy; exact hp i y hy
    · have hlt := (List.getElem?_eq_some_iff.1 hy).1
      obtain rfl : i = n := by simp [hl] at hlt; omega
      rw [List.getElem?_append_right (by omega)] at hy
      simp [hl] at hy
      exact hy ▸ hx
/-- A SLICE OF ELEMENTS OF ONE SHAPE, OPENED: α is what an element stands for. -/
theorem open_elems {α : Type} {W : World} {base : Nat} {t e : TypeId} {v : Value} {d : DataW H} {p : List MemPlace} (m : Nat) (n : Nat) (ks : List Kd) (cells : α → List Value) (ok : α → Prop)
    (ht : P.underlying t = some (.slice e)) (hk : kinds P n e = some ks) (hm : P.cellsOf e = m) (hm0 : 0 < m)
    (hα : ∀ vs, AllOk enc P W (fun _ => true) ks vs → ∃ x, vs = cells x ∧ ok x)
    (hv : Value.okWide P W .any base t v) (h : DataW.Trod enc P W 0 (fun _ => true) true t v d p) :
    ∃ a len cap l, v = .slice a len cap ∧ (IsElems W a len m cells l ∧ (∀ x ∈ l, ok x) ∧ len ≤ maxLen) := by
  obtain ⟨a0, len0, cap0, rfl⟩ := okWide_slice ht hv
  have hc := open_cell (.sl e) (by simp [kinds, ht]) hv h rfl
  rcases hc with h0 | ⟨a, len, cap, q, h1, hl, hmx, hel⟩
  · cases h0
    exact ⟨_, _, _, [], rfl, ⟨rfl, fun i x hx => by simp at hx⟩, fun x hx => by simp at hx, by decide⟩
  · cases h1
    by_cases hz : len0 = 0
    · subst hz
      exact ⟨_, _, _, [], rfl, ⟨rfl, fun i x hx => by simp at hx⟩, fun x hx => by simp at hx, by decide⟩
    · have hsp : a.spot = none := by
        obtain ⟨cs, y, hcs, _⟩ := hel 0 (by omega)
        obtain ⟨_, hlen, hcell⟩ := World.cells?_some hcs
        have := hcell 0 (by omega)
        rw [List.getElem?_eq_getElem (by omega)] at this
        have := World.cell?_spot this
        simpa [Addr.add] using this
      obtain ⟨b, off, spot⟩ := a
      obtain rfl : spot = none := hsp
      have key : ∀ i, i < len0 → ∃ x : α, ok x ∧ b < W.heap.size ∧ ∀ (j : Nat) (u : Value), (cells x)[j]? = some u → W.cell? ⟨b, off + i * m + j, none⟩ = some u := fun i hi => by
        obtain ⟨cs, y, hcs, htr⟩ := hel i hi
        obtain ⟨x, rfl, hx⟩ := hα cs (ok_of_trod n e ks cs y hk ⟨q, htr⟩)
        obtain ⟨_, hlen, hcell⟩ := World.cells?_some hcs
        rw [hm] at hlen hcell
        have plain : ∀ j, j < m → W.cell? ⟨b, off + i * m + j, none⟩ = (cells x)[j]? := fun j hj => by
          rw [← hcell j hj, add_plain, add_plain]
        refine ⟨x, hx, ?_, fun j u hu => ?_⟩
        · have := plain 0 hm0
          rw [List.getElem?_eq_getElem (by omega)] at this
          exact World.block_lt_of_cell? W _ this
        · have hj := (List.getElem?_eq_some_iff.1 hu).1
          rw [plain j (by omega)]; exact hu
      obtain ⟨l, hlen, hp⟩ := choose_list len0 key
      refine ⟨_, _, _, l, rfl, ⟨hlen, fun i x hx => ?_⟩, fun x hx => ?_, by omega⟩
      · obtain ⟨_, h2, h3⟩ := hp i x hx
        exact ⟨b, off, rfl, h2, h3⟩
      · obtain ⟨i, hi, rfl⟩ := List.getElem_of_mem hx
        exact (hp i _ (List.getElem?_eq_getElem hi)).1
/-- TWO NUMBERS OF ONE KIND BY VALUE ('[2]uint32', '[2]int'). -/
theorem open_pair {W : World} {base : Nat} {t : TypeId} {v : Value} {d : DataW H} {p : List MemPlace} {k : IntKind} (hk : kinds P 2 t = some [.int k, .int k]) (hu : (match P.underlying t with | some (.struct _) | some (.array _ _) => true | _ => false) = true)
    (hv : Value.okWide P W .any base t v) (h : DataW.Trod enc P W 0 (fun _ => true) true t v d p) : ∃ q0 q1, v = .agg #[.int k q0, .int k q1] ∧ ((Lit.int k q0).wf = true ∧ (Lit.int k q1).wf = true) := by
  obtain ⟨cs, rfl, hall⟩ := open_flat 2 _ hk hu hv h
  clear h hv
  have e : cs = cs.toList.toArray := by simp
  rw [e]
  clear e
  revert hall
  generalize cs.toList = l
  intro hall
  match l, hall with
  | [_, _], ⟨⟨q0, e0, h0⟩, ⟨q1, e1, h1⟩, _⟩ => exact ⟨q0, q1, by rw [e0, e1], h0, h1⟩
/-- TWO NUMBERS OF TWO KINDS BY VALUE ('struct { b byte; n int }'). -/
theorem open_two {W : World} {base : Nat} {t : TypeId} {v : Value} {d : DataW H} {p : List MemPlace} {k k2 : IntKind} (hk : kinds P 2 t = some [.int k, .int k2]) (hu : (match P.underlying t with | some (.struct _) | some (.array _ _) => true | _ => false) = true)
    (hv : Value.okWide P W .any base t v) (h : DataW.Trod enc P W 0 (fun _ => true) true t v d p) : ∃ q0 q1, v = .agg #[.int k q0, .int k2 q1] ∧ ((Lit.int k q0).wf = true ∧ (Lit.int k2 q1).wf = true) := by
  obtain ⟨cs, rfl, hall⟩ := open_flat 2 _ hk hu hv h
  clear h hv
  have e : cs = cs.toList.toArray := by simp
  rw [e]
  clear e
  revert hall
  generalize cs.toList = l
  intro hall
  match l, hall with
  | [_, _], ⟨⟨q0, e0, h0⟩, ⟨q1, e1, h1⟩, _⟩ => exact ⟨q0, q1, by rw [e0, e1], h0, h1⟩
end
end Opn
end Go.Proofs.Ytglpbianmbjoeaa
namespace Go.Proofs.Ytglpbianmbjoeaa
open Go.ChangeShapes Go.WideShapes Go.ChangeAt Go.RowKit Go.Deep
set_option linter.unusedVariables false
structure ActR where
  Z : Int
  T : Bool
def ActR.cells (o : ActR) : List Value := [.int .i64 o.Z, .bool o.T]
structure ActR.Ok (o : ActR) : Prop where
  n1 : -9223372036854775808 ≤ o.Z
  n2 : o.Z ≤ 9223372036854775807
def IsActs (w : World) (a : Option Addr) (len : Nat) (l : List ActR) : Prop := Opn.IsElems w a len 2 ActR.cells l ∧ (∀ x ∈ l, ActR.Ok x) ∧ len ≤ maxLen
theorem IsActs.at_ {w w' : World} {a : Option Addr} {len : Nat} {l : List ActR} (h : IsActs w a len l) (hb : Below w.heap.size w w') {k : Nat} (hk : k < len) : ∃ o b off, l[k]? = some o ∧ ActR.Ok o ∧ a = some ⟨b, off, none⟩ ∧ b < w.heap.size ∧
    w'.cell? ⟨b, off + k * 2, none⟩ = some (.int .i64 o.Z) ∧ w'.cell? ⟨b, off + k * 2 + 1, none⟩ = some (.bool o.T) := by
  obtain ⟨⟨hl, he⟩, hok, _⟩ := h
  have hx : l[k]? = some (l[k]'(by omega)) := List.getElem?_eq_getElem _
  obtain ⟨b, off, ha, hlt, hc⟩ := he k _ hx
  refine ⟨_, b, off, hx, hok _ (List.getElem_mem _), ha, hlt, ?_, ?_⟩
  · exact (hb.cell (p := ⟨b, off + k * 2, none⟩) hlt).trans (hc 0 _ rfl)
  · exact (hb.cell (p := ⟨b, off + k * 2 + 1, none⟩) hlt).trans (hc 1 _ rfl)
theorem open_acts {H : Type} {enc : TypeId × Value → H} {P : Program} {W : World} {base : Nat} {t e : TypeId} {v : Value} {d : DataW H} {p : List MemPlace}
    (ht : P.underlying t = some (.slice e)) (hk : Opn.kinds P 2 e = some [.int .i64, .bool]) (hm : P.cellsOf e = 2)
    (hv : Value.okWide P W .any base t v) (h : DataW.Trod enc P W 0 (fun _ => true) true t v d p) : ∃ a len cap l, v = .slice a len cap ∧ IsActs W a len l := by
  refine Opn.open_elems 2 2 _ ActR.cells ActR.Ok ht hk hm (by omega) (fun vs hall => ?_) hv h
  have hl := hall.length
  obtain ⟨x0, x1, rfl⟩ : ∃ x0 x1, vs = [x0, x1] := by
    rcases vs with _ | ⟨x0, _ | ⟨x1, _ | ⟨x2, r⟩⟩⟩
    · cases hl
    · cases hl
    · exact ⟨_, _, rfl⟩
    · simp at hl
  obtain ⟨⟨q0, e0, h0⟩, ⟨q1, e1⟩, _⟩ := hall
  have w1 : -9223372036854775808 ≤ q0 ∧ q0 ≤ 9223372036854775807 := by
    simp only [Lit.wf, Bool.and_eq_true, decide_eq_true_eq] at h0; exact h0
  exact ⟨⟨q0, q1⟩, by rw [e0, e1]; rfl, w1.1, w1.2⟩
end Go.Proofs.Ytglpbianmbjoeaa
namespace Go.Proofs.Ytglpbianmbjoeaa
open Go.RowKit BwtM SrtM PkM
set_option linter.unusedVariables false
set_option linter.unusedSimpArgs false
def fol (s : ByteArray) (o k : Nat) : List UInt8 := BwtM.follow s.data.toList (UnM.links s.data.toList) k o
def folT (s : ByteArray) (o k : Nat) : ByteArray := ⟨(fol s o k).toArray⟩
theorem fol_len (s : ByteArray) (o k : Nat) : (fol s o k).length = k := UnM.follow_len _ _ _ _
theorem folT_size (s : ByteArray) (o k : Nat) : (folT s o k).size = k := by
  unfold folT
  rw [text_size, fol_len]
theorem fol_add (s : ByteArray) (o j k : Nat) : fol s o (j + k) = fol s o j ++ BwtM.follow s.data.toList (UnM.links s.data.toList) k (UnM.plc (UnM.links s.data.toList) o j) := UnM.follow_add _ _ _ _ _
theorem fol_take (s : ByteArray) (o : Nat) {k f : Nat} (h : k ≤ f) : (fol s o f).take k = fol s o k := by
  have := fol_add s o k (f - k)
  rw [show k + (f - k) = f by omega] at this
  rw [this, List.take_append_of_le_length (by rw [fol_len]; exact Nat.le_refl _), List.take_of_length_le (by rw [fol_len]; exact Nat.le_refl _)]
theorem fol_taken (s : ByteArray) (o : Nat) {k f : Nat} (h : k ≤ f) : folT s o k ++ ⟨((fol s o f).drop k).toArray⟩ = folT s o f := by
  unfold folT
  rw [text_append, ← fol_take s o h, List.take_append_drop]
theorem folT_ext (s : ByteArray) (o : Nat) {f n : Nat} (h : f ≤ n) : (folT s o n).extract 0 f = folT s o f := by
  apply ByteArray.ext
  rw [ByteArray.data_extract]
  apply Array.ext'
  rw [Array.toList_extract, List.extract_eq_take_drop, Nat.sub_zero, List.drop_zero]
  exact fol_take s o h
/-- G steps were gone, k bytes taken. -/
def CuSt (w W : World) (t g : Nat) (s : ByteArray) (o G k : Nat) : Prop := (∃ tv, UnSt w.heap.size W t g s o G ((fol s o (G - 2 * s.size)).drop k) tv) ∧ Below w.heap.size w W
section
variable {w W W0 : World} {t g o G k : Nat} {s : ByteArray}
theorem CuSt.drewN (h : CuSt w W t g s o G k) (m : Nat) : CuSt w (W.drewN m) t g s o G k := by
  obtain ⟨⟨tv, h1⟩, h2⟩ := h
  exact ⟨⟨tv, IsIn.below h1 (below_drewN _ _)⟩, h2.trans (unBelow_drewN _ _ _)⟩
theorem CuSt.below (h : CuSt w W0 t g s o G k) (hb : Below W0.heap.size W0 W) : CuSt w W t g s o G k := by
  obtain ⟨⟨tv, h1⟩, h2⟩ := h
  exact ⟨⟨tv, IsIn.below h1 hb⟩, h2.trans (hb.mono h2.size)⟩
theorem CuSt.lt (h : CuSt w W t g s o G k) : t < W.heap.size := by
  obtain ⟨⟨tv, h1⟩, h2⟩ := h
  exact h1.obj.lt
theorem cu_step (z : Int) (h0 : CuSt w W0 t g s o G k) (hb : Below W0.heap.size W0 W) (hG : G ≤ 3 * s.size) (hk : k ≤ G - 2 * s.size) (hs : s.size ≤ 40) (ho : o < s.size) (hz : z ≤ 9223372036854775807) :
    Calls Try.prog 17 #[.pointer (some ⟨t, 0, none⟩), .int .i64 z] W fun e w' => e = .returned (.int .i64 ((min z.toNat (3 * s.size - G) : Nat) : Int)) ∧ CuSt w w' t g s o (G + min z.toNat (3 * s.size - G)) k ∧ (∀ x, W0.heap.size ≤ x → x < W.heap.size → w'.heap[x]? = W.heap[x]?) := by
  obtain ⟨⟨tv, h1⟩, h2⟩ := h0
  have h3 := IsIn.below h1 hb
  have hl : ((fol s o (G - 2 * s.size)).drop k).length ≤ 100000 := by rw [List.length_drop, fol_len]; omega
  refine (unstep_any W z G h3 hG (by omega) hl ho hz (Nat.le_trans h2.size hb.size)).mono ?_
  rintro e w' ⟨rfl, ⟨tv', h4⟩, h5⟩
  obtain ⟨m, hm⟩ : ∃ m, min z.toNat (3 * s.size - G) = m := ⟨_, rfl⟩
  rw [hm] at h4 ⊢
  refine ⟨rfl, ⟨⟨tv', ?_⟩, (h2.trans (hb.mono h2.size)).trans (h5.below (Nat.le_trans h2.size hb.size) (fun i hi => ?_))⟩, fun x hx1 hx2 => h5.block x hx2 (fun hi => ?_)⟩
  · have e1 : (fol s o (G - 2 * s.size)).drop k ++ tolU s o G m = (fol s o (G + m - 2 * s.size)).drop k := by
      unfold tolU
      have := fol_add s o (G - 2 * s.size) (G + m - 2 * s.size - (G - 2 * s.size))
      rw [show G - 2 * s.size + (G + m - 2 * s.size - (G - 2 * s.size)) = G + m - 2 * s.size by omega] at this
      rw [this, List.drop_append_of_le_length (by rw [fol_len]; exact hk)]
    rw [← e1]
    exact h4
  · rcases hi with rfl | rfl | hi
    · exact h1.base
    · exact h1.gase
    · exact (h1.told.lt i hi).1
  · have l1 := h1.obj.lt
    have l2 := h1.row.lt
    rcases hi with rfl | rfl | hi
    · omega
    · omega
    · have := (h1.told.lt x hi).2
      omega
theorem cu_take (h : CuSt w W t g s o G k) (hk : k ≤ G - 2 * s.size) :
    Calls Try.prog 18 #[.pointer (some ⟨t, 0, none⟩)] W fun e w' => e = .returned (.string ⟨((fol s o (G - 2 * s.size)).drop k).toArray⟩) ∧ CuSt w w' t g s o G (G - 2 * s.size) ∧ Touch (· = t) W w' := by
  obtain ⟨⟨tv, h1⟩, h2⟩ := h
  refine (untake_any W h1).mono ?_
  rintro e w' ⟨rfl, ⟨tv', h4⟩, h5⟩
  refine ⟨rfl, ⟨⟨tv', ?_⟩, h2.trans (h5.below h2.size (fun i hi => by rw [hi]; exact h1.base))⟩, h5⟩
  rw [List.drop_of_length_le (by rw [fol_len]; exact Nat.le_refl _)]
  exact h4
theorem cu_waiting (h : CuSt w W t g s o G k) : Calls Try.prog 19 #[.pointer (some ⟨t, 0, none⟩)] W fun e w' => e = .returned (.int .i64 ((G - 2 * s.size - k : Nat) : Int)) ∧ CuSt w w' t g s o G k := by
  obtain ⟨⟨tv, h1⟩, h2⟩ := id h
  refine (unwaiting_any h1).mono ?_
  rintro e w' ⟨rfl, rfl⟩
  exact ⟨by rw [List.length_drop, fol_len], h⟩
theorem cu_steps (h : CuSt w W t g s o G k) (hG : G ≤ 3 * s.size) (hs : s.size ≤ 40) : Calls Try.prog 20 #[.pointer (some ⟨t, 0, none⟩)] W fun e w' => e = .returned (.int .i64 (G : Int)) ∧ CuSt w w' t g s o G k := by
  obtain ⟨⟨tv, h1⟩, h2⟩ := id h
  refine (unsteps_any h1 (by omega) (by omega) (by omega)).mono ?_
  rintro e w' ⟨rfl, m, rfl⟩
  exact ⟨by rw [show min G s.size + min (G - s.size) s.size + (G - 2 * s.size) = G by omega], h.drewN m⟩
theorem cu_done (h : CuSt w W t g s o G k) (hG : G ≤ 3 * s.size) (h0 : 0 < s.size) : Calls Try.prog 21 #[.pointer (some ⟨t, 0, none⟩)] W fun e w' => e = .returned (.bool (G == 3 * s.size)) ∧ CuSt w w' t g s o G k := by
  obtain ⟨⟨tv, h1⟩, h2⟩ := id h
  refine (undone_any h1 h0).mono ?_
  rintro e w' ⟨rfl, m, rfl⟩
  have e1 : (G - 2 * s.size == s.size) = (G == 3 * s.size) := by
    rw [Bool.eq_iff_iff, beq_iff_eq, beq_iff_eq]
    omega
  exact ⟨by rw [e1], h.drewN m⟩
theorem cu_held (h : CuSt w W t g s o G k) (hG : G ≤ 3 * s.size) (hs : s.size ≤ 40) : Calls Try.prog 22 #[.pointer (some ⟨t, 0, none⟩)] W fun e w' => e = .returned (.int .i64 ((2 * s.size + (G - 2 * s.size - k) : Nat) : Int)) ∧ CuSt w w' t g s o G k := by
  obtain ⟨⟨tv, h1⟩, h2⟩ := id h
  refine (unheld_any h1 (by omega) (by rw [List.length_drop, fol_len]; omega)).mono ?_
  rintro e w' ⟨rfl, m, rfl⟩
  exact ⟨by rw [List.length_drop, fol_len], h.drewN m⟩
end
set_option maxRecDepth 100000 in
set_option maxHeartbeats 16000000 in
theorem unbwtCuts.walk (s : ByteArray) (o : Int) (l : Option Addr) (len cap : Nat) (ls : List ActR) (w : World) (hs : s.size ≤ maxLen) (ho : (Lit.int .i64 o).wf = true) (hl : IsActs w l len ls) :
    Calls Try.prog 5 #[.string s, .int .i64 o, .slice l len cap] w fun e w' => e = .returned (.bool true) ∧ Below w.heap.size w w' := by
  have HBA := Lib.hid (fun W => banana18_any W)
  have HA := Lib.hid hl
  clear hs ho hl
  by_cases h1 : 40 < s.size
  · have h1i : (40 : Int) < (s.size : Int) := by omega
    go_enter Try.func5, Try.ntmps5
    go_wp2_with fail
    refine (HBA.out _).mono ?_
    rintro e w9 ⟨rfl, hb9⟩
    have HB9 := Lib.hid (hb9)
    clear hb9
    go_wp2_with fail
    go_ret
    exact ⟨rfl, HB9.out⟩
  · have h1i : ¬ (40 : Int) < (s.size : Int) := by omega
    by_cases hneg : o < 0
    · clear h1
      go_enter Try.func5, Try.ntmps5
      go_wp2_with fail
      refine (HBA.out _).mono ?_
      rintro e w9 ⟨rfl, hb9⟩
      have HB9 := Lib.hid (hb9)
      clear hb9
      go_wp2_with fail
      go_ret
      exact ⟨rfl, HB9.out⟩
    · by_cases hge : o ≥ (s.size : Int)
      · clear h1
        go_enter Try.func5, Try.ntmps5
        go_wp2_with fail
        refine (HBA.out _).mono ?_
        rintro e w9 ⟨rfl, hb9⟩
        have HB9 := Lib.hid (hb9)
        clear hb9
        go_wp2_with fail
        go_ret
        exact ⟨rfl, HB9.out⟩
      · by_cases h20 : 20 < len
        · have h2i : (20 : Int) < (len : Int) := by omega
          clear h1
          go_enter Try.func5, Try.ntmps5
          go_wp2_with fail
          refine (HBA.out _).mono ?_
          rintro e w9 ⟨rfl, hb9⟩
          have HB9 := Lib.hid (hb9)
          clear hb9
          go_wp2_with fail
          go_ret
          exact ⟨rfl, HB9.out⟩
        · have h2i : ¬ (20 : Int) < (len : Int) := by omega
          obtain ⟨p, rfl⟩ : ∃ p : Nat, o = (p : Int) := ⟨o.toNat, by omega⟩
          have hps : p < s.size := by omega
          have hs40 : s.size ≤ 40 := by omega
          have HP := Lib.hid (And.intro hps hs40)
          have HNEW := Lib.hid (fun W => unnew_any s p W (by omega) (by omega) hps)
          have HRO := Lib.hid (fun W => rof18_any s p W (by omega) hps)
          rw [show unText s p = folT s p s.size from rfl] at HRO
          obtain ⟨n, hn⟩ : ∃ n, s.size = n := ⟨_, rfl⟩
          have HN := Lib.hid hn
          have hsi : (s.size : Int) = (n : Int) := by omega
          obtain ⟨n2, hn2⟩ : ∃ n2, 2 * n = n2 := ⟨_, rfl⟩
          obtain ⟨n3, hn3⟩ : ∃ n3, 3 * n = n3 := ⟨_, rfl⟩
          have HN2 := Lib.hid hn2
          have HN3 := Lib.hid hn3
          have hn2i : (2 : Int) * (n : Int) = (n2 : Int) := by omega
          have hn3i : (3 : Int) * (n : Int) = (n3 : Int) := by omega
          have hn2w : IntKind.i64.wrap (n2 : Int) = (n2 : Int) := IntWalk.i64_in _ (by omega)
          have hn3w : IntKind.i64.wrap (n3 : Int) = (n3 : Int) := IntWalk.i64_in _ (by omega)
          have hnb : n ≤ 40 := by omega
          have hn23 : n2 ≤ n3 := by omega
          have hn3b : n3 ≤ 120 := by omega
          obtain ⟨TX, hTX⟩ : ∃ TX, folT s p s.size = TX := ⟨_, rfl⟩
          rw [hTX] at HRO
          have HTX := Lib.hid hTX
          have hTXs : (TX.size : Int) = (n : Int) := by rw [← hTX, folT_size, hn]
          clear hn hn2 hn3 hTX hps hs40 h1 h20
          go_enter Try.func5, Try.ntmps5
          go_wp2_with fail
          refine (HNEW.out _).mono ?_
          rintro e w1 ⟨t, g, rfl, hI, hB⟩
          have HS1 : Hid (CuSt w w1 t g s p 0 0) := Lib.hid ⟨⟨_, by
            have := ph_start hI (by have := HP.out.1; omega)
            rw [Nat.zero_sub]
            exact this⟩, hB⟩
          clear hI hB
          go_wp2_with fail
          refine (HRO.out _).mono ?_
          rintro e w2 ⟨rfl, hB2⟩
          have HS2 := Lib.hid (HS1.out.below hB2)
          clear hB2 HS1
          go_wp2_with fail
          go_loopw [50, 11, 12] (fun vi vg vt wr => ∃ i G k : Nat, vi = .int .i64 (i : Int) ∧ i ≤ 130 ∧ vg = .int .i64 (G : Int) ∧ G ≤ n3 ∧ vt = .string (folT s p k) ∧ k ≤ G - n2 ∧ CuSt w wr t g s p G k) (fun vi _ _ _ => 130 - (intOf vi).toNat)
          case atStart => exact ⟨0, 0, 0, rfl, by omega, rfl, by omega, rfl, by omega, HS2.out⟩
          case round =>
            clear HS2
            obtain ⟨i, G, k, rfl, hi, rfl, hG, rfl, hk, hS⟩ := hrel
            have HS := Lib.hid hS
            clear hS
            obtain ⟨wa, rfl⟩ : ∃ wa : World, wa = wr := ⟨_, rfl⟩
            by_cases hic : i < 130
            · have hii : (i : Int) < 130 := by omega
              go_wp2_with fail
              go_loopw [54, 11, 12] (fun vj vg vt wr => ∃ j G k : Nat, vj = .int .i64 (j : Int) ∧ j ≤ len ∧ vg = .int .i64 (G : Int) ∧ G ≤ n3 ∧ vt = .string (folT s p k) ∧ k ≤ G - n2 ∧ CuSt w wr t g s p G k) (fun vj _ _ _ => len - (intOf vj).toNat)
              case atStart => exact ⟨0, G, k, rfl, by omega, rfl, hG, rfl, hk, HS.out⟩
              case round =>
                clear HS hG hk
                obtain ⟨j, G, k, rfl, hj, rfl, hG, rfl, hk, hS⟩ := hrel
                have HS := Lib.hid hS
                clear hS
                by_cases hjl : j < len
                · have hji : (j : Int) < (len : Int) := by omega
                  obtain ⟨⟨Z, T⟩, bb, off, hx, hok, rfl, hblt, cz, ct⟩ := HA.out.at_ HS.out.2 hjl
                  have hZ1 := hok.n1
                  have hZ2 := hok.n2
                  simp only at hZ1 hZ2 cz ct
                  have HBL := Lib.hid hblt
                  obtain ⟨d, hd⟩ : ∃ d, n3 - G = d := ⟨_, rfl⟩
                  have hdi : (n3 : Int) - (G : Int) = (d : Int) := by omega
                  have hdw : IntKind.i64.wrap (d : Int) = (d : Int) := IntWalk.i64_in _ (by omega)
                  obtain ⟨x, hxe⟩ : ∃ x, min Z.toNat d = x := ⟨_, rfl⟩
                  have hwant : max 0 (min Z (d : Int)) = (x : Int) := by rw [cut_want, hxe]
                  have hxd : x ≤ d := by omega
                  obtain ⟨G2, hG2⟩ : ∃ G2, G + x = G2 := ⟨_, rfl⟩
                  have hG2i : (G : Int) + (x : Int) = (G2 : Int) := by omega
                  have hG2w : IntKind.i64.wrap (G2 : Int) = (G2 : Int) := IntWalk.i64_in _ (by omega)
                  have hG2n : G2 ≤ n3 := by omega
                  obtain ⟨f, hf⟩ : ∃ f, G2 - n2 = f := ⟨_, rfl⟩
                  obtain ⟨gs, hgs⟩ : ∃ gs, (G2 : Int) - (n2 : Int) = gs := ⟨_, rfl⟩
                  have hgsw : IntKind.i64.wrap gs = gs := IntWalk.i64_in _ (by omega)
                  have hmx : max 0 gs = (f : Int) := by omega
                  have hkf : k ≤ f := by omega
                  have hfn : f ≤ n := by have e2 := HN2.out; have e3 := HN3.out; omega
                  have HFE : Hid (G2 - 2 * s.size = f ∧ G2 ≤ 3 * s.size) := Lib.hid (by have e1 := HN.out; have e2 := HN2.out; have e3 := HN3.out; omega)
                  have HST := Lib.hid (fun W (hb : Below wr.heap.size wr W) => cu_step (W0 := wr) (W := W) Z HS.out hb (by have e1 := HN.out; have e3 := HN3.out; omega) (by have e1 := HN.out; have e2 := HN2.out; omega) HP.out.2 HP.out.1 hZ2)
                  rw [show 3 * s.size - G = d by (have e1 := HN.out; have e3 := HN3.out; omega), hxe, hG2] at HST
                  have HTL := Lib.hid HS.out.lt
                  have HTAKE := Lib.hid (fun W (h : CuSt w W t g s p G2 k) => cu_take h (by rw [HFE.out.1]; exact hkf))
                  rw [HFE.out.1] at HTAKE
                  have hbox0 : ∀ j, (wr.alloc (.cells #[.int .i64 Z, .bool T] 40)).cell? ⟨wr.heap.size, j, none⟩ = (#[Value.int .i64 Z, .bool T] : Array Value)[j]? := fun j => cell_of_row _ _ j _ _ _ (heap_alloc_new _ _)
                  have b0 : (wr.alloc (.cells #[.int .i64 Z, .bool T] 40)).cell? ⟨wr.heap.size, 0, none⟩ = some (.int .i64 Z) := hbox0 0
                  have b1 : (wr.alloc (.cells #[.int .i64 Z, .bool T] 40)).cell? ⟨wr.heap.size, 1, none⟩ = some (.bool T) := hbox0 1
                  have HBX : Hid (Below wr.heap.size wr (wr.alloc (.cells #[.int .i64 Z, .bool T] 40))) := Lib.hid ((Below.refl _ _).alloc (Nat.le_refl _) _)
                  have HSZ : Hid (wr.heap.size < (wr.alloc (.cells #[.int .i64 Z, .bool T] 40)).heap.size) := Lib.hid (by show _ < (wr.heap.push _).size; simp)
                  clear hd hxe hG2 hf hx hok hbox0 hblt
                  obtain ⟨KT, hKT⟩ : ∃ KT, folT s p k = KT := ⟨_, rfl⟩
                  obtain ⟨FT, hFT⟩ : ∃ FT, folT s p f = FT := ⟨_, rfl⟩
                  obtain ⟨DT, hDT⟩ : ∃ DT : ByteArray, (⟨((fol s p f).drop k).toArray⟩ : ByteArray) = DT := ⟨_, rfl⟩
                  have hsum : KT ++ DT = FT := by rw [← hKT, ← hFT, ← hDT]; exact fol_taken s p hkf
                  have hex : TX.extract 0 f = FT := by rw [← HTX.out, ← hFT]; exact folT_ext s p (by have e1 := HN.out; omega)
                  have hKTs : KT.size = k := by rw [← hKT]; exact folT_size _ _ _
                  have hFTs : FT.size = f := by rw [← hFT]; exact folT_size _ _ _
                  have hDTs : DT.size ≤ 40 := by rw [← hDT, text_size, List.length_drop, fol_len]; omega
                  have hsz : KT.size + DT.size ≤ 2199023255552 := by omega
                  have hFF : (FT.toList == FT.toList) = true := list_eq_test FT FT true ⟨fun _ => rfl, fun _ => rfl⟩
                  have hfT1 : f ≤ TX.size := by omega
                  have hfT2 : (f : Int) ≤ (TX.size : Int) := by omega
                  have HKT := Lib.hid hKT
                  have HFT := Lib.hid hFT
                  rw [hKT]
                  rw [hDT] at HTAKE
                  clear hKT hFT hDT
                  go_wp2_with fail
                  refine (HST.out _ HBX.out).mono ?_
                  rintro e w3 ⟨rfl, hS3, hk3⟩
                  have HS3 := Lib.hid hS3
                  have kb := hk3 wr.heap.size (Nat.le_refl _) HSZ.out
                  have b1a : w3.cell? ⟨wr.heap.size, 1, none⟩ = some (.bool T) := (World.cell?_of_block (a := ⟨wr.heap.size, 1, none⟩) kb).trans b1
                  clear hS3 hk3 kb b0 b1 cz ct
                  cases T with
                  | true =>
                    go_wp2_with fail
                    refine (HTAKE.out _ HS3.out).mono ?_
                    rintro e w4 ⟨rfl, hS4, ht4⟩
                    have HS4 := Lib.hid hS4
                    have b1b : w4.cell? ⟨wr.heap.size, 1, none⟩ = some (.bool true) := (World.cell?_of_block (a := ⟨wr.heap.size, 1, none⟩) (ht4.block wr.heap.size (block_lt_of_cell b1a) (by have := HTL.out; omega))).trans b1a
                    clear hS4 ht4 b1a
                    obtain ⟨wl, hwl⟩ : ∃ wl, f - f = wl := ⟨_, rfl⟩
                    have hwli : (f : Int) - (f : Int) = (wl : Int) := by omega
                    have hwlw : IntKind.i64.wrap (wl : Int) = (wl : Int) := IntWalk.i64_in _ (by omega)
                    have hKs : (FT.size : Int) = (f : Int) := by omega
                    obtain ⟨hz, hhz⟩ : ∃ hz, n2 + wl = hz := ⟨_, rfl⟩
                    obtain ⟨q1, hq1⟩ : ∃ q1, n2 + f = q1 := ⟨_, rfl⟩
                    have hq1i : (n2 : Int) + (f : Int) = (q1 : Int) := by omega
                    have hq1w : IntKind.i64.wrap (q1 : Int) = (q1 : Int) := IntWalk.i64_in _ (by omega)
                    have hq2i : (q1 : Int) - (f : Int) = (hz : Int) := by omega
                    have hq2w : IntKind.i64.wrap (hz : Int) = (hz : Int) := IntWalk.i64_in _ (by omega)
                    obtain ⟨dn, hdn⟩ : ∃ dn : Bool, (G2 == 3 * s.size) = dn := ⟨_, rfl⟩
                    have hdni : ((G2 : Int) == (n3 : Int)) = dn := by
                      rw [← hdn, Bool.eq_iff_iff, beq_iff_eq, beq_iff_eq]
                      have e1 := HN.out
                      have e3 := HN3.out
                      omega
                    have HW1 := Lib.hid (fun W (h : CuSt w W t g s p G2 f) => cu_waiting h)
                    have HW2 := Lib.hid (fun W (h : CuSt w W t g s p G2 f) => cu_steps h HFE.out.2 HP.out.2)
                    have HW3 := Lib.hid (fun W (h : CuSt w W t g s p G2 f) => cu_done h HFE.out.2 (by have := HP.out.1; omega))
                    have HW4 := Lib.hid (fun W (h : CuSt w W t g s p G2 f) => cu_held h HFE.out.2 HP.out.2)
                    rw [HFE.out.1, hwl] at HW1 HW4
                    rw [hdn] at HW3
                    rw [show 2 * s.size + wl = hz by (have e1 := HN.out; have e2 := HN2.out; omega)] at HW4
                    clear hwl hhz hq1 hdn
                    go_wp2_with fail
                    refine (HW1.out _ HS4.out).mono ?_
                    rintro e w5 ⟨rfl, h5⟩
                    have H5 := Lib.hid h5
                    clear h5
                    go_wp2_with fail
                    refine (HW2.out _ H5.out).mono ?_
                    rintro e w6 ⟨rfl, h6⟩
                    have H6 := Lib.hid h6
                    clear h6
                    go_wp2_with fail
                    refine (HW3.out _ H6.out).mono ?_
                    rintro e w7 ⟨rfl, h7⟩
                    have H7 := Lib.hid h7
                    clear h7
                    go_wp2_with fail
                    refine (HW4.out _ H7.out).mono ?_
                    rintro e w8 ⟨rfl, h8⟩
                    have H8 := Lib.hid h8
                    clear h8
                    go_wp2_with fail
                    go_roundw
                    case rel => exact ⟨j + 1, G2, f, by go_num, by omega, rfl, hG2n, by rw [HFT.out], by omega, H8.out⟩
                    case measure => simp [intOf]; omega
                  | false =>
                    obtain ⟨wl, hwl⟩ : ∃ wl, f - k = wl := ⟨_, rfl⟩
                    have hwli : (f : Int) - (k : Int) = (wl : Int) := by omega
                    have hwlw : IntKind.i64.wrap (wl : Int) = (wl : Int) := IntWalk.i64_in _ (by omega)
                    have hKs : (KT.size : Int) = (k : Int) := by omega
                    obtain ⟨hz, hhz⟩ : ∃ hz, n2 + wl = hz := ⟨_, rfl⟩
                    obtain ⟨q1, hq1⟩ : ∃ q1, n2 + f = q1 := ⟨_, rfl⟩
                    have hq1i : (n2 : Int) + (f : Int) = (q1 : Int) := by omega
                    have hq1w : IntKind.i64.wrap (q1 : Int) = (q1 : Int) := IntWalk.i64_in _ (by omega)
                    have hq2i : (q1 : Int) - (k : Int) = (hz : Int) := by omega
                    have hq2w : IntKind.i64.wrap (hz : Int) = (hz : Int) := IntWalk.i64_in _ (by omega)
                    obtain ⟨dn, hdn⟩ : ∃ dn : Bool, (G2 == 3 * s.size) = dn := ⟨_, rfl⟩
                    have hdni : ((G2 : Int) == (n3 : Int)) = dn := by
                      rw [← hdn, Bool.eq_iff_iff, beq_iff_eq, beq_iff_eq]
                      have e1 := HN.out
                      have e3 := HN3.out
                      omega
                    have HW1 := Lib.hid (fun W (h : CuSt w W t g s p G2 k) => cu_waiting h)
                    have HW2 := Lib.hid (fun W (h : CuSt w W t g s p G2 k) => cu_steps h HFE.out.2 HP.out.2)
                    have HW3 := Lib.hid (fun W (h : CuSt w W t g s p G2 k) => cu_done h HFE.out.2 (by have := HP.out.1; omega))
                    have HW4 := Lib.hid (fun W (h : CuSt w W t g s p G2 k) => cu_held h HFE.out.2 HP.out.2)
                    rw [HFE.out.1, hwl] at HW1 HW4
                    rw [hdn] at HW3
                    rw [show 2 * s.size + wl = hz by (have e1 := HN.out; have e2 := HN2.out; omega)] at HW4
                    clear hwl hhz hq1 hdn
                    go_wp2_with fail
                    refine (HW1.out _ HS3.out).mono ?_
                    rintro e w5 ⟨rfl, h5⟩
                    have H5 := Lib.hid h5
                    clear h5
                    go_wp2_with fail
                    refine (HW2.out _ H5.out).mono ?_
                    rintro e w6 ⟨rfl, h6⟩
                    have H6 := Lib.hid h6
                    clear h6
                    go_wp2_with fail
                    refine (HW3.out _ H6.out).mono ?_
                    rintro e w7 ⟨rfl, h7⟩
                    have H7 := Lib.hid h7
                    clear h7
                    go_wp2_with fail
                    refine (HW4.out _ H7.out).mono ?_
                    rintro e w8 ⟨rfl, h8⟩
                    have H8 := Lib.hid h8
                    clear h8
                    go_wp2_with fail
                    go_roundw
                    case rel => exact ⟨j + 1, G2, k, by go_num, by omega, rfl, hG2n, by rw [HKT.out], by omega, H8.out⟩
                    case measure => simp [intOf]; omega
                · have hji : ¬ (j : Int) < (len : Int) := by omega
                  go_wp2_with fail
                  go_roundw
                  case rel => exact ⟨i + 1, G, k, by go_num, by omega, rfl, hG, rfl, hk, HS.out⟩
                  case measure => simp [intOf]; omega
            · have hii : ¬ (i : Int) < 130 := by omega
              obtain ⟨d, hd⟩ : ∃ d, n3 - G = d := ⟨_, rfl⟩
              have hdi : (n3 : Int) - (G : Int) = (d : Int) := by omega
              have hdw : IntKind.i64.wrap (d : Int) = (d : Int) := IntWalk.i64_in _ (by omega)
              have HST := Lib.hid (cu_step (W0 := wa) (W := wa) (d : Int) HS.out (Below.refl _ _) (by have e1 := HN.out; have e3 := HN3.out; omega) (by have e1 := HN.out; have e2 := HN2.out; omega) HP.out.2 HP.out.1 (by omega))
              rw [Int.toNat_natCast, show min d (3 * s.size - G) = d by (have e1 := HN.out; have e3 := HN3.out; omega), show G + d = n3 by omega] at HST
              have hkn : k ≤ n := by have e2 := HN2.out; have e3 := HN3.out; omega
              have HST2 := Lib.hid (fun W (h : CuSt w W t g s p n3 k) => cu_step (W0 := W) (W := W) 1 h (Below.refl _ _) (by have e1 := HN.out; have e3 := HN3.out; omega) (by have e1 := HN.out; have e2 := HN2.out; have e3 := HN3.out; omega) HP.out.2 HP.out.1 (by omega))
              rw [show min (1 : Int).toNat (3 * s.size - n3) = 0 by (have e1 := HN.out; have e3 := HN3.out; omega), Nat.add_zero] at HST2
              have HDN := Lib.hid (fun W (h : CuSt w W t g s p n3 k) => cu_done h (by have e1 := HN.out; have e3 := HN3.out; omega) (by have := HP.out.1; omega))
              rw [show (n3 == 3 * s.size) = true by (rw [beq_iff_eq]; have e1 := HN.out; have e3 := HN3.out; omega)] at HDN
              have hnf : n3 - 2 * s.size = n := by have e1 := HN.out; have e3 := HN3.out; omega
              have HTAKE := Lib.hid (fun W (h : CuSt w W t g s p n3 k) => cu_take h (by rw [hnf]; exact hkn))
              have HW1 := Lib.hid (fun W (h : CuSt w W t g s p n3 n) => cu_waiting h)
              rw [hnf] at HTAKE HW1
              rw [Nat.sub_self] at HW1
              obtain ⟨KT, hKT⟩ : ∃ KT, folT s p k = KT := ⟨_, rfl⟩
              obtain ⟨DT, hDT⟩ : ∃ DT : ByteArray, (⟨((fol s p n).drop k).toArray⟩ : ByteArray) = DT := ⟨_, rfl⟩
              have hsum : KT ++ DT = TX := by rw [← hKT, ← HTX.out, ← hDT, HN.out]; exact fol_taken s p hkn
              have hKTs : KT.size = k := by rw [← hKT]; exact folT_size _ _ _
              have hDTs : DT.size ≤ 40 := by rw [← hDT, text_size, List.length_drop, fol_len]; omega
              have hsz : KT.size + DT.size ≤ 2199023255552 := by omega
              have hTT : (TX.toList == TX.toList) = true := list_eq_test TX TX true ⟨fun _ => rfl, fun _ => rfl⟩
              rw [hKT]
              rw [hDT] at HTAKE
              clear hKT hDT hd hnf
              go_wp2_with fail
              refine HST.out.mono ?_
              rintro e w3 ⟨rfl, hS3, _⟩
              have HS3 := Lib.hid hS3
              clear hS3
              go_wp2_with fail
              refine (HDN.out _ HS3.out).mono ?_
              rintro e w4 ⟨rfl, hS4⟩
              have HS4 := Lib.hid hS4
              clear hS4
              go_wp2_with fail
              refine (HST2.out _ HS4.out).mono ?_
              rintro e w5 ⟨rfl, hS5, _⟩
              have HS5 := Lib.hid hS5
              clear hS5
              go_wp2_with fail
              refine (HTAKE.out _ HS5.out).mono ?_
              rintro e w6 ⟨rfl, hS6, _⟩
              have HS6 := Lib.hid hS6
              clear hS6
              go_wp2_with fail
              refine (HW1.out _ HS6.out).mono ?_
              rintro e w7 ⟨rfl, hS7⟩
              have HB7 := Lib.hid hS7.2
              clear hS7
              go_wp2_with fail
              refine (HBA.out _).mono ?_
              rintro e w9 ⟨rfl, hb9⟩
              have HB9 := Lib.hid (HB7.out.trans (hb9.mono HB7.out.size))
              clear hb9
              go_wp2_with fail
              go_ret
              exact ⟨rfl, HB9.out⟩
end Go.Proofs.Ytglpbianmbjoeaa

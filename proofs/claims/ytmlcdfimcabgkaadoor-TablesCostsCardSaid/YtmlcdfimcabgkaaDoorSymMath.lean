/-
  PLAIN MATHEMATICS: a row sorted so that those alike keep their order: parts of it change places, and two parts that lie side by side and are in order become one (rows are functions of the place). No program is named here.
-/
import Derived.Test.YtmlcdfimcabgkaaDoorLawKit
namespace Go.Proofs.YtmlcdfimcabgkaaDoor
namespace SymM
open Go.RowKit
set_option linter.unusedVariables false

abbrev Row := Nat → Int
/-- Two places change. -/
def sw (d : Row) (i j : Nat) : Row := fun k => if k = i then d j else if k = j then d i else d k
/-- n places from a on change with n from b on. -/
def swr (d : Row) (a b n : Nat) : Row := fun k => if a ≤ k ∧ k < a + n then d (k - a + b) else if b ≤ k ∧ k < b + n then d (k - b + a) else d k
/-- What lies from m up to b comes ahead of what lies from a up to m. -/
def rot (d : Row) (a m b : Nat) : Row := fun k => if a ≤ k ∧ k < a + (b - m) then d (k + (m - a)) else if a + (b - m) ≤ k ∧ k < b then d (k - (b - m)) else d k
theorem swr_zero (d : Row) (a b : Nat) : swr d a b 0 = d := by
  funext k
  simp only [swr]
  rw [if_neg (by omega), if_neg (by omega)]
theorem swr_succ (d : Row) {a b n : Nat} (h : a + n < b) : sw (swr d a b n) (a + n) (b + n) = swr d a b (n + 1) := by
  funext k
  simp only [swr, sw]
  repeat' split
  all_goals first
    | (exfalso; omega)
    | rfl
    | (congr 1; omega)
theorem rot_left (d : Row) {m i j : Nat} (h : j < i) (hi : i ≤ m) : rot (swr d (m - i) m j) (m - (i - j)) m (m + j) = rot d (m - i) m (m + j) := by
  funext k
  simp only [rot, swr]
  repeat' split
  all_goals first
    | (exfalso; omega)
    | rfl
    | (congr 1; omega)
theorem rot_right (d : Row) {m i j : Nat} (h : i < j) (hi : i ≤ m) : rot (swr d (m - i) (m + j - i) i) (m - i) m (m + (j - i)) = rot d (m - i) m (m + j) := by
  funext k
  simp only [rot, swr]
  repeat' split
  all_goals first
    | (exfalso; omega)
    | rfl
    | (congr 1; omega)
theorem rot_even (d : Row) {m i : Nat} (hi : i ≤ m) : swr d (m - i) m i = rot d (m - i) m (m + i) := by
  funext k
  simp only [rot, swr]
  repeat' split
  all_goals first
    | (exfalso; omega)
    | rfl
    | (congr 1; omega)
theorem rot_none (d : Row) (a m : Nat) : rot d a m m = d := by
  funext k
  simp only [rot]
  rw [if_neg (by omega)]
  split
  · congr 1; omega
  · rfl
theorem rot_none' (d : Row) (m b : Nat) : rot d m m b = d := by
  funext k
  simp only [rot]
  split
  · congr 1; omega
  · rw [if_neg (by omega)]
/-- One place goes up, step by step. -/
theorem rot_up (d : Row) {a k : Nat} (h : a ≤ k) : sw (rot d a (a + 1) (k + 1)) k (k + 1) = rot d a (a + 1) (k + 2) := by
  funext x
  simp only [rot, sw]
  repeat' split
  all_goals first
    | (exfalso; omega)
    | rfl
    | (congr 1; omega)
/-- One place goes down, step by step. -/
theorem rot_down (d : Row) {k m : Nat} (h : k < m) : sw (rot d (k + 1) m (m + 1)) (k + 1) k = rot d k m (m + 1) := by
  funext x
  simp only [rot, sw]
  repeat' split
  all_goals first
    | (exfalso; omega)
    | rfl
    | (congr 1; omega)

/-! ### Parts of a row -/
def seg (d : Row) (a n : Nat) : List Int := (List.range n).map fun i => d (a + i)
theorem seg_len (d : Row) (a n : Nat) : (seg d a n).length = n := by simp [seg]
theorem seg_append (d : Row) (a m n : Nat) : seg d a (m + n) = seg d a m ++ seg d (a + m) n := by
  unfold seg
  rw [List.range_add, List.map_append, List.map_map]
  congr 1
  apply List.map_congr_left
  intro i _
  show d (a + (m + i)) = d (a + m + i)
  rw [Nat.add_assoc]
theorem seg_congr {d e : Row} {a b n : Nat} (h : ∀ i, i < n → d (a + i) = e (b + i)) : seg d a n = seg e b n := by
  unfold seg
  apply List.map_congr_left
  intro i hi
  exact h i (List.mem_range.1 hi)
theorem seg_mem {d : Row} {a n : Nat} {x : Int} : x ∈ seg d a n ↔ ∃ k, a ≤ k ∧ k < a + n ∧ d k = x := by
  unfold seg
  rw [List.mem_map]
  constructor
  · rintro ⟨i, hi, rfl⟩
    have := List.mem_range.1 hi
    exact ⟨a + i, by omega, by omega, rfl⟩
  · rintro ⟨k, h1, h2, rfl⟩
    exact ⟨k - a, List.mem_range.2 (by omega), by rw [show a + (k - a) = k by omega]⟩
/-- From a up to b the row holds the same, in some order; elsewhere it is the same. -/
structure Pm (d e : Row) (a b : Nat) : Prop where
  perm : (seg e a (b - a)).Perm (seg d a (b - a))
  out : ∀ k, ¬ (a ≤ k ∧ k < b) → e k = d k
theorem Pm.refl (d : Row) (a b : Nat) : Pm d d a b := ⟨List.Perm.refl _, fun _ _ => rfl⟩
theorem Pm.trans {d e f : Row} {a b : Nat} (h : Pm d e a b) (k : Pm e f a b) : Pm d f a b :=
  ⟨k.perm.trans h.perm, fun x hx => (k.out x hx).trans (h.out x hx)⟩
theorem Pm.wide {d e : Row} {a b a0 b0 : Nat} (h : Pm d e a b) (h1 : a0 ≤ a) (h2 : a ≤ b) (h3 : b ≤ b0) : Pm d e a0 b0 := by
  refine ⟨?_, fun x hx => h.out x (by omega)⟩
  have e0 : b0 - a0 = (a - a0) + ((b - a) + (b0 - b)) := by omega
  rw [e0, seg_append, seg_append, seg_append d, seg_append d, show a0 + (a - a0) = a by omega, show a + (b - a) = b by omega]
  refine List.Perm.append ?_ (h.perm.append ?_)
  · rw [seg_congr (fun i hi => h.out (a0 + i) (by omega))]
  · rw [seg_congr (fun i hi => h.out (b + i) (by omega))]
theorem Pm.mem {d e : Row} {a b : Nat} (h : Pm d e a b) {k : Nat} (h1 : a ≤ k) (h2 : k < b) : ∃ k', a ≤ k' ∧ k' < b ∧ e k = d k' := by
  have h3 : e k ∈ seg d a (b - a) := h.perm.mem_iff.1 (seg_mem.2 ⟨k, h1, by omega, rfl⟩)
  obtain ⟨k', h4, h5, h6⟩ := seg_mem.1 h3
  exact ⟨k', h4, by omega, h6.symm⟩
theorem rot_pm (d : Row) {a m b : Nat} (h1 : a ≤ m) (h2 : m ≤ b) : Pm d (rot d a m b) a b := by
  refine ⟨?_, fun k hk => ?_⟩
  · have e1 : b - a = (b - m) + (m - a) := by omega
    have e2 : b - a = (m - a) + (b - m) := by omega
    conv => lhs; rw [e1, seg_append]
    conv => rhs; rw [e2, seg_append]
    rw [show a + (m - a) = m by omega]
    have e3 : seg (rot d a m b) a (b - m) = seg d m (b - m) := seg_congr (fun i hi => by
      simp only [rot]
      rw [if_pos (by omega)]
      congr 1; omega)
    have e4 : seg (rot d a m b) (a + (b - m)) (m - a) = seg d a (m - a) := seg_congr (fun i hi => by
      simp only [rot]
      rw [if_neg (by omega), if_pos (by omega)]
      congr 1; omega)
    rw [e3, e4]
    exact List.perm_append_comm
  · simp only [rot]
    rw [if_neg (by omega), if_neg (by omega)]

/-! ### Order -/
/-- By weight, and those alike by what they are. -/
def L (w : Int → Int) (x y : Int) : Prop := w x < w y ∨ (w x = w y ∧ x < y)
theorem L.trans {w : Int → Int} {x y z : Int} (h : L w x y) (k : L w y z) : L w x z := by unfold L at *; omega
def Srt (w : Int → Int) (d : Row) (a b : Nat) : Prop := ∀ i j, a ≤ i → i < j → j < b → L w (d i) (d j)
def Low (d : Row) (a m b : Nat) : Prop := ∀ i j, a ≤ i → i < m → m ≤ j → j < b → d i < d j
def Cross (w : Int → Int) (d : Row) (a m b : Nat) : Prop := ∀ i j, a ≤ i → i < m → m ≤ j → j < b → L w (d i) (d j)
theorem Srt.sub {w : Int → Int} {d : Row} {a b a' b' : Nat} (h : Srt w d a b) (h1 : a ≤ a') (h2 : b' ≤ b) : Srt w d a' b' :=
  fun i j hi hij hj => h i j (by omega) hij (by omega)
theorem Srt.join {w : Int → Int} {d : Row} {a m b : Nat} (h1 : Srt w d a m) (h2 : Srt w d m b) (h3 : Cross w d a m b) : Srt w d a b := by
  intro i j hi hij hj
  by_cases h : j < m
  · exact h1 i j hi hij h
  · by_cases k : i < m
    · exact h3 i j hi k (by omega) hj
    · exact h2 i j (by omega) hij hj
theorem Srt.one (w : Int → Int) (d : Row) {a b : Nat} (h : b ≤ a + 1) : Srt w d a b := fun i j hi hij hj => by omega
theorem Srt.congr {w : Int → Int} {d e : Row} {a b x y : Nat} (h : Srt w d x (x + (b - a))) (he : ∀ k, k < b - a → e (a + k) = d (x + k)) : Srt w e a b := by
  intro i j hi hij hj
  have h1 := he (i - a) (by omega)
  have h2 := he (j - a) (by omega)
  rw [show a + (i - a) = i by omega] at h1
  rw [show a + (j - a) = j by omega] at h2
  rw [h1, h2]
  exact h _ _ (by omega) (by omega) (by omega)
theorem Cross.pm {w : Int → Int} {d e : Row} {a m b : Nat} (h : Cross w d a m b) (h1 : ∀ k, a ≤ k → k < m → ∃ k', a ≤ k' ∧ k' < m ∧ e k = d k') (h2 : ∀ k, m ≤ k → k < b → ∃ k', m ≤ k' ∧ k' < b ∧ e k = d k') : Cross w e a m b := by
  intro i j hi him hj hjb
  obtain ⟨i', h3, h4, h5⟩ := h1 i hi him
  obtain ⟨j', h6, h7, h8⟩ := h2 j hj hjb
  rw [h5, h8]
  exact h i' j' h3 h4 h6 h7
/-- Two parts are cut, and the inner pieces change places. -/
structure Cut (w : Int → Int) (d : Row) (a s m e b : Nat) : Prop where
  o1 : a ≤ s
  o2 : s ≤ m
  o3 : m ≤ e
  o4 : e ≤ b
  sl : Srt w d a m
  sr : Srt w d m b
  low : Low d a m b
  c1 : ∀ i j, a ≤ i → i < s → e ≤ j → j < b → L w (d i) (d j)
  c2 : ∀ i j, s ≤ i → i < m → m ≤ j → j < e → L w (d j) (d i)
theorem rot_p1 (d : Row) {s m e k : Nat} (h : k < s) : rot d s m e k = d k := by
  simp only [rot]; rw [if_neg (by omega), if_neg (by omega)]
theorem rot_p2 (d : Row) {s m e k : Nat} (h : s ≤ k) (h2 : k < s + (e - m)) : rot d s m e k = d (k + (m - s)) := by
  simp only [rot]; rw [if_pos (by omega)]
theorem rot_p3 (d : Row) {s m e k : Nat} (h : s + (e - m) ≤ k) (h2 : k < e) : rot d s m e k = d (k - (e - m)) := by
  simp only [rot]; rw [if_neg (by omega), if_pos (by omega)]
theorem rot_p4 (d : Row) {s m e k : Nat} (h : e ≤ k) (h2 : s ≤ m) (h3 : m ≤ e) : rot d s m e k = d k := by
  simp only [rot]; rw [if_neg (by omega), if_neg (by omega)]
theorem Cut.srt {w : Int → Int} {d : Row} {a s m e b : Nat} (h : Cut w d a s m e b) :
    Srt w (rot d s m e) a s ∧ Srt w (rot d s m e) s (s + (e - m)) ∧ Srt w (rot d s m e) (s + (e - m)) e ∧ Srt w (rot d s m e) e b := by
  obtain ⟨o1, o2, o3, o4, sl, sr, low, c1, c2⟩ := h
  refine ⟨fun i j hi hij hj => ?_, fun i j hi hij hj => ?_, fun i j hi hij hj => ?_, fun i j hi hij hj => ?_⟩
  · rw [rot_p1 d (by omega), rot_p1 d (by omega)]; exact sl i j (by omega) hij (by omega)
  · rw [rot_p2 d (by omega) (by omega), rot_p2 d (by omega) (by omega)]; exact sr _ _ (by omega) (by omega) (by omega)
  · rw [rot_p3 d (by omega) (by omega), rot_p3 d (by omega) (by omega)]; exact sl _ _ (by omega) (by omega) (by omega)
  · rw [rot_p4 d (by omega) o2 o3, rot_p4 d (by omega) o2 o3]; exact sr i j (by omega) hij (by omega)
theorem Cut.cross {w : Int → Int} {d : Row} {a s m e b : Nat} (h : Cut w d a s m e b) : Cross w (rot d s m e) a (s + (e - m)) b := by
  obtain ⟨o1, o2, o3, o4, sl, sr, low, c1, c2⟩ := h
  intro i j hi him hj hjb
  by_cases h1 : i < s
  · rw [rot_p1 d h1]
    by_cases h2 : j < e
    · rw [rot_p3 d hj h2]; exact sl _ _ hi (by omega) (by omega)
    · rw [rot_p4 d (by omega) o2 o3]; exact c1 i j hi h1 (by omega) hjb
  · rw [rot_p2 d (by omega) him]
    by_cases h2 : j < e
    · rw [rot_p3 d hj h2]; exact c2 _ _ (by omega) (by omega) (by omega) (by omega)
    · rw [rot_p4 d (by omega) o2 o3]; exact sr _ _ (by omega) (by omega) hjb
theorem Cut.low1 {w : Int → Int} {d : Row} {a s m e b : Nat} (h : Cut w d a s m e b) : Low (rot d s m e) a s (s + (e - m)) := by
  obtain ⟨o1, o2, o3, o4, sl, sr, low, c1, c2⟩ := h
  intro i j hi him hj hjb
  rw [rot_p1 d him, rot_p2 d hj hjb]
  exact low _ _ hi (by omega) (by omega) (by omega)
theorem Cut.low2 {w : Int → Int} {d : Row} {a s m e b : Nat} (h : Cut w d a s m e b) : Low (rot d s m e) (s + (e - m)) e b := by
  obtain ⟨o1, o2, o3, o4, sl, sr, low, c1, c2⟩ := h
  intro i j hi him hj hjb
  rw [rot_p3 d hi him, rot_p4 d hj o2 o3]
  exact low _ _ (by omega) (by omega) (by omega) hjb
theorem low_L {w : Int → Int} {x y : Int} (h : x < y) (k : ¬ w y < w x) : L w x y := by unfold L; omega
theorem L.imp_le {w : Int → Int} {x y : Int} (h : L w x y) : w x ≤ w y := by unfold L at h; omega
theorem Srt.le {w : Int → Int} {d : Row} {a b i j : Nat} (h : Srt w d a b) (h1 : a ≤ i) (h2 : i ≤ j) (h3 : j < b) : w (d i) ≤ w (d j) := by
  by_cases e : i = j
  · subst e; exact Int.le_refl _
  · exact (h i j h1 (by omega) h3).imp_le
/-- The first part is one place. -/
theorem cut_first {w : Int → Int} {d : Row} {a b i : Nat} (hs : Srt w d (a + 1) b) (hl : Low d a (a + 1) b) (h1 : a + 1 ≤ i) (h2 : i ≤ b) (e1 : i = a + 1 ∨ w (d (i - 1)) < w (d a)) (e2 : i = b ∨ ¬ w (d i) < w (d a)) :
    Srt w (rot d a (a + 1) i) a b := by
  have hc : Cut w d a a (a + 1) i b := ⟨Nat.le_refl _, by omega, h1, h2, Srt.one w d (by omega), hs, hl, fun x y _ _ _ _ => by omega, fun x y hx hxa hy hyi => by
    obtain rfl : x = a := by omega
    rcases e1 with e | e
    · omega
    · have := hs.le hy (show y ≤ i - 1 by omega) (by omega)
      unfold L; omega⟩
  obtain ⟨s1, s2, s3, s4⟩ := hc.srt
  refine s2.join (s3.join s4 (fun x y hx hxi hy hyb => ?_)) hc.cross
  rw [rot_p3 d hx hxi, rot_p4 d hy (by omega) h1]
  rcases e2 with e | e
  · omega
  · have h3 := hs.le h1 hy hyb
    have h4 := hl (x - (i - (a + 1))) y (by omega) (by omega) (by omega) hyb
    have h5 : x - (i - (a + 1)) = a := by omega
    rw [h5] at h4 ⊢
    exact low_L h4 (by omega)
/-- The last part is one place. -/
theorem cut_last {w : Int → Int} {d : Row} {a m i : Nat} (hs : Srt w d a m) (hl : Low d a m (m + 1)) (h1 : a ≤ i) (h2 : i ≤ m) (e1 : i = a ∨ ¬ w (d m) < w (d (i - 1))) (e2 : i = m ∨ w (d m) < w (d i)) :
    Srt w (rot d i m (m + 1)) a (m + 1) := by
  have hc : Cut w d a i m (m + 1) (m + 1) := ⟨h1, h2, by omega, Nat.le_refl _, hs, Srt.one w d (by omega), hl, fun x y _ _ _ _ => by omega, fun x y hx hxa hy hyi => by
    obtain rfl : y = m := by omega
    rcases e2 with e | e
    · omega
    · have := hs.le h1 hx hxa
      have h9 := hs.le h1 (show i ≤ x from hx) hxa
      unfold L; omega⟩
  obtain ⟨s1, s2, s3, s4⟩ := hc.srt
  refine (s1.join s2 (fun x y hx hxi hy hyb => ?_)).join (s3.join s4 (fun x y hx hxi hy hyb => by omega)) hc.cross
  rw [rot_p1 d hxi, rot_p2 d hy hyb]
  have h5 : y + (m - i) = m := by omega
  rw [h5]
  rcases e1 with e | e
  · omega
  · have h3 := hs.le hx (show x ≤ i - 1 by omega) (by omega)
    exact low_L (hl x m hx (by omega) (by omega) (by omega)) (by omega)
/-- Where two parts are cut. -/
theorem cut_mid {w : Int → Int} {d : Row} {a m b mid s lo r0 : Nat} (hsl : Srt w d a m) (hsr : Srt w d m b) (hl : Low d a m b) (ham : a < m) (hmb : m < b)
    (hmid : mid = (a + b) / 2) (hlo : lo = if mid < m then mid + m - b else a) (hr0 : r0 = if mid < m then mid else m)
    (h1 : lo ≤ s) (h2 : s ≤ r0) (e1 : s = lo ∨ ¬ w (d (mid + m - 1 - (s - 1))) < w (d (s - 1))) (e2 : s = r0 ∨ w (d (mid + m - 1 - s)) < w (d s)) :
    Cut w d a s m (mid + m - s) b := by
  have hs0 : a ≤ s := by split at hlo <;> omega
  have hsm : s ≤ m := by split at hr0 <;> omega
  have hsd : s ≤ mid := by split at hr0 <;> omega
  have hb : mid + m - s ≤ b := by split at hlo <;> omega
  refine ⟨hs0, hsm, by omega, hb, hsl, hsr, hl, fun i j hi his hj hjb => ?_, fun i j hi him hj hje => ?_⟩
  · rcases e1 with e | e
    · split at hlo <;> omega
    · rw [show mid + m - 1 - (s - 1) = mid + m - s by omega] at e
      have h3 := hsl.le hi (show i ≤ s - 1 by omega) (by omega)
      have h4 := hsr.le (show m ≤ mid + m - s by omega) hj hjb
      exact low_L (hl i j hi (by omega) (by omega) hjb) (by omega)
  · rcases e2 with e | e
    · split at hr0 <;> omega
    · have h3 := hsl.le hs0 hi him
      have h4 := hsr.le hj (show j ≤ mid + m - 1 - s by omega) (by omega)
      unfold L; omega
/-- Two parts become one. -/
theorem cut_merge {w : Int → Int} {d d2 d3 : Row} {a s m e b : Nat} (h : Cut w d a s m e b) (p2 : Pm (rot d s m e) d2 a (s + (e - m))) (p3 : Pm d2 d3 (s + (e - m)) b)
    (s2 : Srt w d2 a (s + (e - m))) (s3 : Srt w d3 (s + (e - m)) b) : Pm d d3 a b ∧ Srt w d3 a b := by
  have hc := h.cross
  obtain ⟨o1, o2, o3, o4, sl, sr, low, c1, c2⟩ := h
  refine ⟨(((rot_pm d o2 o3).wide o1 (by omega) o4).trans (p2.wide (Nat.le_refl _) (by omega) (by omega))).trans (p3.wide (by omega) (by omega) (Nat.le_refl _)), ?_⟩
  have s2' : Srt w d3 a (s + (e - m)) := by
    intro i j hi hij hj
    rw [p3.out i (by omega), p3.out j (by omega)]
    exact s2 i j hi hij hj
  refine s2'.join s3 (hc.pm (fun k h1 h2 => ?_) (fun k h1 h2 => ?_))
  · rw [p3.out k (by omega)]
    exact p2.mem h1 h2
  · obtain ⟨k', h4, h5, h6⟩ := p3.mem h1 h2
    exact ⟨k', h4, h5, h6.trans (p2.out k' (by omega))⟩

/-! ### Blocks -/
/-- From a up to b there are the numbers from a up to b, in order. -/
structure Blk (w : Int → Int) (d : Row) (a b : Nat) : Prop where
  perm : (seg d a (b - a)).Perm (seg (fun k => (k : Int)) a (b - a))
  srt : Srt w d a b
theorem Blk.mem {w : Int → Int} {d : Row} {a b : Nat} (h : Blk w d a b) {k : Nat} (h1 : a ≤ k) (h2 : k < b) : (a : Int) ≤ d k ∧ d k < (b : Int) := by
  have h3 : d k ∈ seg (fun k => (k : Int)) a (b - a) := h.perm.mem_iff.1 (seg_mem.2 ⟨k, h1, by omega, rfl⟩)
  obtain ⟨k', h4, h5, h6⟩ := seg_mem.1 h3
  omega
theorem Blk.low {w : Int → Int} {d : Row} {a m b : Nat} (h : Blk w d a m) (k : Blk w d m b) : Low d a m b := fun i j h1 h2 h3 h4 => by
  have := h.mem h1 h2
  have := k.mem h3 h4
  omega
theorem Blk.merge {w : Int → Int} {d e : Row} {a m b : Nat} (h : Blk w d a m) (k : Blk w d m b) (h1 : a ≤ m) (h2 : m ≤ b) (hp : Pm d e a b) (hs : Srt w e a b) : Blk w e a b := by
  refine ⟨hp.perm.trans ?_, hs⟩
  rw [show b - a = (m - a) + (b - m) by omega, seg_append, seg_append, show a + (m - a) = m by omega]
  exact h.perm.append k.perm
theorem Blk.stay {w : Int → Int} {d e : Row} {a b : Nat} (h : Blk w d a b) (he : ∀ k, a ≤ k → k < b → e k = d k) : Blk w e a b := by
  refine ⟨?_, fun i j hi hij hj => ?_⟩
  · rw [seg_congr (fun i hi => he (a + i) (by omega) (by omega))]
    exact h.perm
  · rw [he i hi (by omega), he j (by omega) hj]
    exact h.srt i j hi hij hj
theorem Blk.nil (w : Int → Int) (d : Row) {a b : Nat} (h : b ≤ a) : Blk w d a b := by
  refine ⟨?_, Srt.one w d (by omega)⟩
  rw [show b - a = 0 by omega]
  exact List.Perm.refl _
/-- All blocks of B places. -/
def Blks (w : Int → Int) (n B : Nat) (d : Row) : Prop := ∀ q, Blk w d (B * q) (min (B * q + B) n)
/-- Blocks of 2 B places ahead of a, of B places from a on. -/
def Half (w : Int → Int) (n B t : Nat) (d : Row) : Prop := (∀ q, q < t → Blk w d (2 * B * q) (min (2 * B * q + 2 * B) n)) ∧ ∀ q, 2 * t ≤ q → Blk w d (B * q) (min (B * q + B) n)
theorem Half.start {w : Int → Int} {n B : Nat} {d : Row} (h : Blks w n B d) : Half w n B 0 d := ⟨fun q hq => by omega, fun q _ => h q⟩
theorem mul_lt_le {B q t : Nat} (h : q < t) : B * q + B ≤ B * t := by
  have := Nat.mul_le_mul_left B (show q + 1 ≤ t by omega)
  rw [Nat.mul_add, Nat.mul_one] at this
  exact this
theorem Half.next {w : Int → Int} {n B t a b : Nat} {d e : Row} (h : Half w n B t d) (ha : a = 2 * B * t) (hb : b = min (a + 2 * B) n) (hab : a + B ≤ b)
    (hp : Pm d e a b) (hs : Srt w e a b) : Half w n B (t + 1) e := by
  obtain ⟨h1, h2⟩ := h
  have hB : B * (2 * t) = 2 * B * t := by rw [Nat.mul_comm 2 B, Nat.mul_assoc]
  have hB1 : B * (2 * t + 1) = 2 * B * t + B := by rw [Nat.mul_add, Nat.mul_one, hB]
  refine ⟨fun q hq => ?_, fun q hq => ?_⟩
  · by_cases e : q = t
    · subst e
      have k1 := h2 (2 * q) (by omega)
      have k2 := h2 (2 * q + 1) (by omega)
      rw [hB] at k1
      rw [hB1] at k2
      rw [← ha] at k1 k2 ⊢
      rw [← hb]
      have e1 : min (a + B) n = a + B := by omega
      have e2 : min (a + B + B) n = b := by omega
      rw [e1] at k1
      rw [e2] at k2
      exact k1.merge k2 (by omega) hab hp hs
    · have h3 := mul_lt_le (B := 2 * B) (show q < t by omega)
      exact (h1 q (by omega)).stay (fun k hk1 hk2 => hp.out k (by omega))
  · have h3 := mul_lt_le (B := B) (show 2 * t + 1 < q by omega)
    exact (h2 q (by omega)).stay (fun k hk1 hk2 => hp.out k (by omega))
/-- The last one lacks a second part. -/
theorem Half.end_ {w : Int → Int} {n B t a : Nat} {d : Row} (h : Half w n B t d) (ha : a = 2 * B * t) (hn : n ≤ a + B) : Blks w n (2 * B) d := by
  obtain ⟨h1, h2⟩ := h
  intro q
  by_cases hq : q < t
  · exact h1 q hq
  · by_cases e : q = t
    · subst e
      have k1 := h2 (2 * q) (by omega)
      have hB : B * (2 * q) = 2 * B * q := by rw [Nat.mul_comm 2 B, Nat.mul_assoc]
      rw [hB] at k1
      have e1 : min (2 * B * q + B) n = min (2 * B * q + 2 * B) n := by omega
      rw [e1] at k1
      exact k1
    · have h3 := mul_lt_le (B := 2 * B) (show t < q by omega)
      exact Blk.nil w d (by omega)
theorem Half.full {w : Int → Int} {n B t a : Nat} {d : Row} (h : Half w n B t d) (ha : a = 2 * B * t) (hn : n ≤ a) : Blks w n (2 * B) d := h.end_ ha (by omega)
/-- All is one block. -/
theorem Blks.all {w : Int → Int} {n B : Nat} {d : Row} (h : Blks w n B d) (hn : n ≤ B) : Blk w d 0 n := by
  have := h 0
  rw [Nat.mul_zero, show min (0 + B) n = n by omega] at this
  exact this
/-- Blocks that were put in order, up to t of them; from there on nothing has changed. -/
def Ins (w : Int → Int) (n B t : Nat) (d : Row) : Prop := (∀ q, q < t → Blk w d (B * q) (min (B * q + B) n)) ∧ ∀ k, B * t ≤ k → d k = (k : Int)
theorem Ins.next {w : Int → Int} {n B t a b : Nat} {d e : Row} (h : Ins w n B t d) (ha : a = B * t) (hb : b = min (a + B) n) (hp : Pm d e a b) (hs : Srt w e a b) : Ins w n B (t + 1) e := by
  obtain ⟨h1, h2⟩ := h
  refine ⟨fun q hq => ?_, fun k hk => ?_⟩
  · by_cases e : q = t
    · subst e
      rw [← ha, ← hb]
      refine ⟨hp.perm.trans ?_, hs⟩
      rw [seg_congr (e := fun k => (k : Int)) (b := a) (fun i hi => h2 (a + i) (by omega))]
    · have h3 := mul_lt_le (B := B) (show q < t by omega)
      exact (h1 q (by omega)).stay (fun k hk1 hk2 => hp.out k (by omega))
  · have h3 : B * (t + 1) = B * t + B := by rw [Nat.mul_add, Nat.mul_one]
    rw [hp.out k (by omega)]
    exact h2 k (by omega)
theorem Ins.end_ {w : Int → Int} {n B t : Nat} {d : Row} (h : Ins w n B t d) (hn : n ≤ B * t) : Blks w n B d := by
  intro q
  by_cases hq : q < t
  · exact h.1 q hq
  · have h3 : B * t ≤ B * q := Nat.mul_le_mul_left B (by omega)
    exact Blk.nil w d (by omega)
end SymM
end Go.Proofs.YtmlcdfimcabgkaaDoor

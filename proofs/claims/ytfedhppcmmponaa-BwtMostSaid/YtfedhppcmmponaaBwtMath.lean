/-
  PLAIN MATHEMATICS OF LAYERS 15 TO 18 (rotate, sorter, bwt, unbwt): rotations in order, their last bytes, and the text that comes back of them by links. No program is named here.
-/
import Derived.Test.YtfedhppcmmponaaLawKit
namespace Go.Proofs.Ytfedhppcmmponaa
namespace BwtM
open Go.RowKit
set_option linter.unusedVariables false

/-! ### Byte by byte -/
def lle : List UInt8 → List UInt8 → Prop
  | [], _ => True
  | _ :: _, [] => False
  | a :: s, b :: t => a.toNat < b.toNat ∨ (a = b ∧ lle s t)
theorem lle_refl : ∀ s, lle s s
  | [] => trivial
  | a :: s => Or.inr ⟨rfl, lle_refl s⟩
theorem lle_anti : ∀ s t, lle s t → lle t s → s = t
  | [], [], _, _ => rfl
  | [], _ :: _, _, h => h.elim
  | _ :: _, [], h, _ => h.elim
  | a :: s, b :: t, h, k => by
    rcases h with h | ⟨rfl, h⟩
    · rcases k with k | ⟨rfl, k⟩
      · omega
      · omega
    · rcases k with k | ⟨_, k⟩
      · omega
      · rw [lle_anti s t h k]
theorem lle_trans : ∀ r s t, lle r s → lle s t → lle r t
  | [], _, _, _, _ => trivial
  | _ :: _, [], _, h, _ => h.elim
  | _ :: _, _ :: _, [], _, h => h.elim
  | a :: r, b :: s, c :: t, h, k => by
    rcases h with h | ⟨rfl, h⟩
    · rcases k with k | ⟨rfl, k⟩
      · exact Or.inl (by omega)
      · exact Or.inl h
    · rcases k with k | ⟨rfl, k⟩
      · exact Or.inl k
      · exact Or.inr ⟨rfl, lle_trans r s t h k⟩
theorem lle_total : ∀ s t, lle s t ∨ lle t s
  | [], _ => Or.inl trivial
  | _ :: _, [] => Or.inr trivial
  | a :: s, b :: t => by
    rcases Nat.lt_trichotomy a.toNat b.toNat with h | h | h
    · exact Or.inl (Or.inl h)
    · have e : a = b := UInt8.toNat_inj.1 h
      rcases lle_total s t with k | k
      · exact Or.inl (Or.inr ⟨e, k⟩)
      · exact Or.inr (Or.inr ⟨e.symm, k⟩)
    · exact Or.inr (Or.inl h)
/-- What is less stays so, if both lose their ends. -/
theorem lle_cut : ∀ (s t : List UInt8), lle s t → s.length = t.length → lle s.dropLast t.dropLast
  | [], _, _, _ => trivial
  | _ :: _, [], h, _ => h.elim
  | [a], b :: t, _, _ => trivial
  | a :: c :: s, [b], _, hl => by simp at hl
  | a :: c :: s, b :: d :: t, h, hl => by
    rcases h with h | ⟨rfl, h⟩
    · exact Or.inl h
    · exact Or.inr ⟨rfl, lle_cut (c :: s) (d :: t) h (by simpa using hl)⟩
/-- There is one order only. -/
theorem sorted_one : ∀ {a b : List (List UInt8)}, a.Perm b → a.Pairwise lle → b.Pairwise lle → a = b
  | [], b, hp, _, _ => by rw [List.nil_perm.1 hp]
  | x :: s, [], hp, _, _ => by have := hp.length_eq; simp at this
  | x :: s, y :: t, hp, ha, hb => by
    obtain ⟨h1, h2⟩ := List.pairwise_cons.1 ha
    obtain ⟨h3, h4⟩ := List.pairwise_cons.1 hb
    have e : x = y := by
      have hx : x ∈ y :: t := hp.mem_iff.1 (List.mem_cons_self ..)
      have hy : y ∈ x :: s := hp.mem_iff.2 (List.mem_cons_self ..)
      rcases List.mem_cons.1 hx with e | hx
      · exact e
      · rcases List.mem_cons.1 hy with e | hy
        · exact e.symm
        · exact lle_anti _ _ (h1 y hy) (h3 x hx)
    subst e
    rw [sorted_one hp.cons_inv h2 h4]

/-! ### Rotations -/
def rot (T : List UInt8) (i : Nat) : List UInt8 := T.drop i ++ T.take i
/-- The last byte goes to the front. -/
def rotr (s : List UInt8) : List UInt8 := s.getLastD 0 :: s.dropLast
theorem rot_len (T : List UInt8) (i : Nat) (h : i ≤ T.length) : (rot T i).length = T.length := by
  unfold rot; rw [List.length_append, List.length_drop, List.length_take]; omega
theorem rotr_snoc (s : List UInt8) (x : UInt8) : rotr (s ++ [x]) = x :: s := by
  unfold rotr
  rw [List.dropLast_concat, List.getLastD_concat]
theorem rotr_len (s : List UInt8) (h : s ≠ []) : (rotr s).length = s.length := by
  unfold rotr
  have := List.length_pos_iff.2 h
  simp; omega
theorem rotr_inj {s t : List UInt8} (hs : s ≠ []) (ht : t ≠ []) (h : rotr s = rotr t) : s = t := by
  unfold rotr at h
  simp only [List.cons.injEq] at h
  rw [← List.dropLast_concat_getLast hs, ← List.dropLast_concat_getLast ht, h.2]
  congr 2
  have e1 : s.getLastD 0 = s.getLast hs := by rw [List.getLastD_eq_getLast?, List.getLast?_eq_some_getLast hs]; rfl
  have e2 : t.getLastD 0 = t.getLast ht := by rw [List.getLastD_eq_getLast?, List.getLast?_eq_some_getLast ht]; rfl
  rw [← e1, ← e2, h.1]
/-- A rotation, its last byte in front, is the one at the place ahead. -/
theorem rotr_rot (T : List UInt8) (i : Nat) (h : i + 1 ≤ T.length) : rotr (rot T (i + 1)) = rot T i := by
  have hi : i < T.length := by omega
  unfold rot
  rw [List.take_succ_eq_append_getElem hi, ← List.append_assoc, rotr_snoc]
  conv => rhs; rw [List.drop_eq_getElem_cons hi]
  rfl
theorem rot_zero (T : List UInt8) : rot T 0 = T := by simp [rot]
theorem rot_all (T : List UInt8) : rot T T.length = T := by simp [rot]
theorem rotr_first (T : List UInt8) (h : 0 < T.length) : rotr (rot T 0) = rot T (T.length - 1) := by
  rw [rot_zero, ← rot_all T]
  conv => lhs; rw [show T.length = T.length - 1 + 1 by omega]
  rw [rotr_rot T (T.length - 1) (by omega), rot_all]
theorem rots_perm (T : List UInt8) (h : 0 < T.length) : ((List.range T.length).map fun p => rotr (rot T p)).Perm ((List.range T.length).map (rot T)) := by
  obtain ⟨m, hm⟩ : ∃ m, T.length = m + 1 := ⟨T.length - 1, by omega⟩
  rw [hm]
  have e1 : (List.range (m + 1)).map (fun p => rotr (rot T p)) = rot T m :: (List.range m).map (rot T) := by
    rw [List.range_succ_eq_map, List.map_cons, List.map_map]
    congr 1
    · rw [rotr_first T h, hm]; rfl
    · apply List.map_congr_left
      intro p hp
      have := List.mem_range.1 hp
      exact rotr_rot T p (by omega)
  rw [e1, List.range_succ, List.map_append]
  exact List.perm_append_comm (l₁ := [rot T m]) (l₂ := (List.range m).map (rot T))

/-! ### Links -/
/-- The places of T in the order of their rotations. -/
def IsOrd (T : List UInt8) (P : List Nat) : Prop := P.Perm (List.range T.length) ∧ (P.map (rot T)).Pairwise lle
/-- The last bytes. -/
def lasts (T : List UInt8) (P : List Nat) : List UInt8 := P.map fun p => (rot T p).getLastD 0
/-- The places of L by their bytes, those of one byte as they stand. -/
def IsLinks (L : List UInt8) (K : List Nat) : Prop := K.Perm (List.range L.length) ∧ K.Pairwise fun a b => (L.getD a 0).toNat < (L.getD b 0).toNat ∨ (L.getD a 0 = L.getD b 0 ∧ a < b)
theorem map_range_getD {β : Type} (f : Nat → β) (P : List Nat) : (List.range P.length).map (fun j => f (P.getD j 0)) = P.map f := by
  apply List.ext_getElem
  · simp
  · intro i h1 h2
    simp only [List.length_map] at h2
    rw [List.getElem_map, List.getElem_range, List.getElem_map, List.getD_eq_getElem?_getD, List.getElem?_eq_getElem h2]
    rfl
theorem mem_lt {T : List UInt8} {P : List Nat} (h : IsOrd T P) {p : Nat} (hp : p ∈ P) : p < T.length := List.mem_range.1 (h.1.mem_iff.1 hp)
theorem ord_len {T : List UInt8} {P : List Nat} (h : IsOrd T P) : P.length = T.length := by rw [h.1.length_eq, List.length_range]
theorem lasts_len (T : List UInt8) (P : List Nat) : (lasts T P).length = P.length := by simp [lasts]
theorem lasts_get {T : List UInt8} {P : List Nat} {i : Nat} (h : i < P.length) : (lasts T P).getD i 0 = (rot T (P.getD i 0)).getLastD 0 := by
  unfold lasts
  rw [List.getD_eq_getElem?_getD, List.getElem?_map, List.getD_eq_getElem?_getD, List.getElem?_eq_getElem h]
  rfl
/-- A link leads to a rotation that, its last byte in front, is the one that it comes from. -/
theorem links_rot {T : List UInt8} {P K : List Nat} (hn : 0 < T.length) (hP : IsOrd T P) (hK : IsLinks (lasts T P) K) : K.map (fun j => rotr (rot T (P.getD j 0))) = P.map (rot T) := by
  have hpl := ord_len hP
  have hkr : K.Perm (List.range P.length) := by have := hK.1; rwa [lasts_len] at this
  apply sorted_one
  · refine (hkr.map _).trans ?_
    rw [map_range_getD (fun p => rotr (rot T p)) P]
    exact ((hP.1.map _).trans (rots_perm T hn)).trans (hP.1.map (rot T)).symm
  · rw [List.pairwise_map]
    have hin : ∀ a ∈ K, a < P.length := fun a ha => List.mem_range.1 (hkr.mem_iff.1 ha)
    refine List.Pairwise.imp_of_mem (fun {a b} ha hb h => ?_) hK.2
    have ha' := hin a ha
    have hb' := hin b hb
    rw [lasts_get ha', lasts_get hb'] at h
    have hma : P.getD a 0 ∈ P := by
      rw [List.getD_eq_getElem?_getD, List.getElem?_eq_getElem ha']; exact List.getElem_mem ha'
    have hmb : P.getD b 0 ∈ P := by
      rw [List.getD_eq_getElem?_getD, List.getElem?_eq_getElem hb']; exact List.getElem_mem hb'
    rcases h with h | ⟨h, hab⟩
    · exact Or.inl h
    · refine Or.inr ⟨h, lle_cut _ _ ?_ ?_⟩
      · have hp := List.pairwise_iff_getElem.1 hP.2 a b (by simpa using ha') (by simpa using hb') hab
        rw [List.getElem_map, List.getElem_map] at hp
        rw [List.getD_eq_getElem?_getD, List.getElem?_eq_getElem ha', List.getD_eq_getElem?_getD, List.getElem?_eq_getElem hb']
        exact hp
      · rw [rot_len T _ (Nat.le_of_lt (mem_lt hP hma)), rot_len T _ (Nat.le_of_lt (mem_lt hP hmb))]
  · exact hP.2
theorem link_rot {T : List UInt8} {P K : List Nat} (hn : 0 < T.length) (hP : IsOrd T P) (hK : IsLinks (lasts T P) K) {i : Nat} (hi : i < T.length) :
    K.getD i 0 < T.length ∧ rotr (rot T (P.getD (K.getD i 0) 0)) = rot T (P.getD i 0) := by
  have h := links_rot hn hP hK
  have hpl := ord_len hP
  have hkr : K.Perm (List.range P.length) := by have := hK.1; rwa [lasts_len] at this
  have hkl : K.length = P.length := by rw [hkr.length_eq, List.length_range]
  have hki : i < K.length := by omega
  have hpi : i < P.length := by omega
  refine ⟨?_, ?_⟩
  · have hm : K.getD i 0 ∈ K := by
      rw [List.getD_eq_getElem?_getD, List.getElem?_eq_getElem hki]; exact List.getElem_mem hki
    have := List.mem_range.1 (hkr.mem_iff.1 hm)
    omega
  · have e := congrArg (fun l => l[i]?) h
    simp only [List.getElem?_map] at e
    rw [List.getElem?_eq_getElem hki, List.getElem?_eq_getElem hpi] at e
    simp only [Option.map_some, Option.some.injEq] at e
    rw [List.getD_eq_getElem?_getD (l := K), List.getElem?_eq_getElem hki, List.getD_eq_getElem?_getD (l := P) (i := i), List.getElem?_eq_getElem hpi]
    exact e
/-- What is told from a place on. -/
def follow (L : List UInt8) (K : List Nat) : Nat → Nat → List UInt8
  | 0, _ => []
  | k + 1, at_ => L.getD (K.getD at_ 0) 0 :: follow L K k (K.getD at_ 0)
theorem follow_text {T : List UInt8} {P K : List Nat} (hn : 0 < T.length) (hP : IsOrd T P) (hK : IsLinks (lasts T P) K) : ∀ (k m a : Nat), m + k = T.length → a < T.length → rot T (P.getD a 0) = rot T m →
    follow (lasts T P) K k a = T.drop m
  | 0, m, a, hm, _, _ => by rw [List.drop_eq_nil_of_le (by omega)]; rfl
  | k + 1, m, a, hm, ha, hr => by
    obtain ⟨h1, h2⟩ := link_rot hn hP hK ha
    have hpl := ord_len hP
    have hml : m < T.length := by omega
    have hin : P.getD (K.getD a 0) 0 ∈ P := by
      rw [List.getD_eq_getElem?_getD, List.getElem?_eq_getElem (by omega)]; exact List.getElem_mem _
    have hne : rot T (P.getD (K.getD a 0) 0) ≠ [] := fun e => by
      have := congrArg List.length e
      rw [rot_len T _ (Nat.le_of_lt (mem_lt hP hin))] at this
      simp at this; rw [this] at hn; simp at hn
    have hne2 : rot T (m + 1) ≠ [] := fun e => by
      have := congrArg List.length e
      rw [rot_len T _ (by omega)] at this
      simp at this; rw [this] at hn; simp at hn
    have e1 : rot T (P.getD (K.getD a 0) 0) = rot T (m + 1) := rotr_inj hne hne2 (by rw [h2, hr, rotr_rot T m (by omega)])
    have e2 : (lasts T P).getD (K.getD a 0) 0 = T[m] := by
      rw [lasts_get (by omega), e1]
      unfold rot
      rw [List.take_succ_eq_append_getElem hml, ← List.append_assoc, List.getLastD_concat]
    show (lasts T P).getD (K.getD a 0) 0 :: follow (lasts T P) K k (K.getD a 0) = T.drop m
    rw [e2, List.drop_eq_getElem_cons hml]
    congr 1
    by_cases hk : k = 0
    · subst hk
      rw [List.drop_eq_nil_of_le (by omega)]
      rfl
    · exact follow_text hn hP hK k (m + 1) (K.getD a 0) (by omega) h1 e1
/-- OF THE LAST BYTES AND THE ORIGIN OF A TEXT THE TEXT COMES BACK: of such as are several times the same, too. -/
theorem back {T : List UInt8} {P K : List Nat} (hn : 0 < T.length) (hP : IsOrd T P) (hK : IsLinks (lasts T P) K) {o : Nat} (ho : o < T.length) (h0 : P.getD o 0 = 0) : follow (lasts T P) K T.length o = T := by
  have := follow_text hn hP hK T.length 0 o (by omega) ho (by rw [h0])
  rw [List.drop_zero] at this
  exact this

/-! ### The period -/
theorem rot_add (T : List UInt8) (i k : Nat) (h : i + k ≤ T.length) : rot (rot T i) k = rot T (i + k) := by
  unfold rot
  rw [List.drop_append_of_le_length (by rw [List.length_drop]; omega), List.take_append_of_le_length (by rw [List.length_drop]; omega), List.drop_drop, List.append_assoc]
  congr 1
  rw [← List.take_add]
theorem rot_back (T : List UInt8) (i : Nat) (h : i ≤ T.length) : rot (rot T i) (T.length - i) = T := by
  rw [rot_add T i _ (by omega), show i + (T.length - i) = T.length by omega, rot_all]
/-- Two rotations are the same just if the text, turned by how far they are apart, is the same. -/
theorem rot_same (T : List UInt8) (i d : Nat) (h : i + d ≤ T.length) : rot T (i + d) = rot T i ↔ rot T d = T := by
  constructor
  · intro e
    have h1 : rot (rot T d) i = rot T i := by rw [rot_add T d i (by omega), Nat.add_comm, e]
    have h2 : rot (rot (rot T d) i) (T.length - i) = rot (rot T i) (T.length - i) := congrArg (fun s => rot s (T.length - i)) h1
    rw [rot_back T i (by omega)] at h2
    have h3 := rot_back (rot T d) i (by rw [rot_len T d (by omega)]; omega)
    rw [rot_len T d (by omega)] at h3
    rw [← h3, h2]
  · intro e
    rw [Nat.add_comm, ← rot_add T d i (by omega), e]
/-- By how far a text may be turned and is the same. -/
def Turns (T : List UInt8) (d : Nat) : Prop := d ≤ T.length ∧ rot T d = T
theorem turns_sub {T : List UInt8} {a b : Nat} (ha : Turns T a) (hb : Turns T b) (h : b ≤ a) : Turns T (a - b) := by
  refine ⟨by have := ha.1; omega, ?_⟩
  have e := (rot_same T b (a - b) (by have := ha.1; omega)).1 (by rw [show b + (a - b) = a by omega, ha.2, hb.2])
  exact e
theorem turns_gcd {T : List UInt8} : ∀ (n a b : Nat), a + b ≤ n → Turns T a → Turns T b → Turns T (Nat.gcd a b)
  | 0, a, b, h, ha, _ => by
    obtain rfl : a = 0 := by omega
    obtain rfl : b = 0 := by omega
    exact ha
  | n + 1, a, b, h, ha, hb => by
    by_cases h0 : a = 0
    · subst h0; rw [Nat.gcd_zero_left]; exact hb
    · by_cases h1 : b = 0
      · subst h1; rw [Nat.gcd_zero_right]; exact ha
      · by_cases hab : b ≤ a
        · have := turns_gcd n (a - b) b (by omega) (turns_sub ha hb hab) hb
          rwa [Nat.gcd_sub_self_left hab] at this
        · have := turns_gcd n a (b - a) (by omega) ha (turns_sub hb ha (by omega))
          rwa [Nat.gcd_sub_self_right (by omega)] at this
/-- p is the least by which the text may be turned, of those that divide its length. -/
def IsPeriod (T : List UInt8) (p : Nat) : Prop := 0 < p ∧ p ∣ T.length ∧ rot T p = T ∧ ∀ q, 0 < q → q ∣ T.length → rot T q = T → p ≤ q
theorem turns_mul {T : List UInt8} {p : Nat} (hp : Turns T p) : ∀ m : Nat, m * p ≤ T.length → Turns T (m * p)
  | 0, _ => by rw [Nat.zero_mul]; exact ⟨Nat.zero_le _, rot_zero T⟩
  | m + 1, h => by
    rw [Nat.add_mul, Nat.one_mul] at h ⊢
    have h1 := turns_mul hp m (by omega)
    exact ⟨h, by rw [← rot_add T (m * p) p h, h1.2, hp.2]⟩
theorem period_turns {T : List UInt8} {p d : Nat} (hn : 0 < T.length) (hp : IsPeriod T p) (hd : d ≤ T.length) : rot T d = T ↔ p ∣ d := by
  obtain ⟨h0, h1, h2, h3⟩ := hp
  have hpt : Turns T p := ⟨Nat.le_of_dvd hn h1, h2⟩
  constructor
  · intro e
    have hg := turns_gcd (p + d) p d (Nat.le_refl _) hpt ⟨hd, e⟩
    have hgp := Nat.gcd_dvd_left p d
    have hg0 : 0 < Nat.gcd p d := Nat.pos_of_dvd_of_pos hgp h0
    have h4 := h3 _ hg0 (Nat.dvd_trans hgp h1) hg.2
    have h5 := Nat.le_of_dvd h0 hgp
    have h6 : Nat.gcd p d = p := Nat.le_antisymm h5 h4
    rw [← h6]
    exact Nat.gcd_dvd_right p d
  · rintro ⟨m, rfl⟩
    rw [Nat.mul_comm] at hd ⊢
    exact (turns_mul hpt m hd).2
/-- TWO ROTATIONS ARE THE SAME JUST IF THEIR PLACES DIFFER BY A MULTIPLE OF THE PERIOD. -/
theorem alike {T : List UInt8} {p i k : Nat} (hp : IsPeriod T p) (hi : i < T.length) (hk : k < T.length) : rot T i = rot T k ↔ ((i : Int) - (k : Int)) % (p : Int) = 0 := by
  have hn : 0 < T.length := by omega
  have hd : (p : Int) ∣ (i : Int) - (k : Int) ↔ ((i : Int) - (k : Int)) % (p : Int) = 0 := ⟨Int.emod_eq_zero_of_dvd, Int.dvd_of_emod_eq_zero⟩
  rw [← hd]
  by_cases h : k ≤ i
  · obtain ⟨d, rfl⟩ := Nat.exists_eq_add_of_le h
    rw [rot_same T k d (by omega), period_turns hn hp (by omega), show ((k + d : Nat) : Int) - (k : Int) = (d : Int) by omega, Int.natCast_dvd_natCast]
  · obtain ⟨d, rfl⟩ := Nat.exists_eq_add_of_le (show i ≤ k by omega)
    rw [eq_comm, rot_same T i d (by omega), period_turns hn hp (by omega), show (i : Int) - ((i + d : Nat) : Int) = -(d : Int) by omega, Int.dvd_neg, Int.natCast_dvd_natCast]

/-! ### The sorted places -/
/-- Is the rotation at i ahead of that at k? -/
def Ahead (T : List UInt8) (i k : Nat) : Prop := (lle (rot T i) (rot T k) ∧ rot T i ≠ rot T k) ∨ (rot T i = rot T k ∧ i < k)
theorem ahead_lle {T : List UInt8} {i k : Nat} (h : Ahead T i k) : lle (rot T i) (rot T k) := by
  rcases h with h | h
  · exact h.1
  · rw [h.1]; exact lle_refl _
theorem ahead_asym {T : List UInt8} {i k : Nat} (h : Ahead T i k) : ¬ Ahead T k i := by
  intro g
  have e := lle_anti _ _ (ahead_lle h) (ahead_lle g)
  rcases h with h | h
  · exact h.2 e
  · rcases g with g | g
    · exact g.2 e.symm
    · omega
theorem ahead_trans {T : List UInt8} {i k m : Nat} (h : Ahead T i k) (g : Ahead T k m) : Ahead T i m := by
  have l := lle_trans _ _ _ (ahead_lle h) (ahead_lle g)
  by_cases e : rot T i = rot T m
  · have e2 : rot T i = rot T k := lle_anti _ _ (ahead_lle h) (by rw [e]; exact ahead_lle g)
    rcases h with h | h
    · exact absurd e2 h.2
    · rcases g with g | g
      · exact absurd (e2.symm.trans e) g.2
      · exact Or.inr ⟨e, by omega⟩
  · exact Or.inl ⟨l, e⟩
theorem ahead_total {T : List UInt8} {i k : Nat} (h : i ≠ k) : Ahead T i k ∨ Ahead T k i := by
  by_cases e : rot T i = rot T k
  · rcases Nat.lt_or_gt_of_ne h with g | g
    · exact Or.inl (Or.inr ⟨e, g⟩)
    · exact Or.inr (Or.inr ⟨e.symm, g⟩)
  · rcases lle_total (rot T i) (rot T k) with g | g
    · exact Or.inl (Or.inl ⟨g, e⟩)
    · exact Or.inr (Or.inl ⟨g, fun h => e h.symm⟩)
theorem strict_one {α : Type} {R : α → α → Prop} (hR : ∀ a b, R a b → ¬ R b a) : ∀ {a b : List α}, a.Perm b → a.Pairwise R → b.Pairwise R → a = b
  | [], b, hp, _, _ => by rw [List.nil_perm.1 hp]
  | x :: s, [], hp, _, _ => by have := hp.length_eq; simp at this
  | x :: s, y :: t, hp, ha, hb => by
    obtain ⟨h1, h2⟩ := List.pairwise_cons.1 ha
    obtain ⟨h3, h4⟩ := List.pairwise_cons.1 hb
    have e : x = y := by
      rcases List.mem_cons.1 (hp.mem_iff.1 (List.mem_cons_self ..)) with e | hx
      · exact e
      · rcases List.mem_cons.1 (hp.mem_iff.2 (List.mem_cons_self ..)) with e | hy
        · exact e.symm
        · exact absurd (h3 x hx) (hR _ _ (h1 y hy))
    subst e
    rw [strict_one hR hp.cons_inv h2 h4]
/-- P are the sorted places of T. -/
def IsSorted (T : List UInt8) (P : List Nat) : Prop := P.Perm (List.range T.length) ∧ P.Pairwise (Ahead T)
theorem IsSorted.same {T : List UInt8} {P Q : List Nat} (h : IsSorted T P) (k : IsSorted T Q) : P = Q := strict_one (fun _ _ => ahead_asym) (h.1.trans k.1.symm) h.2 k.2
theorem IsSorted.ord {T : List UInt8} {P : List Nat} (h : IsSorted T P) : IsOrd T P := ⟨h.1, by
  rw [List.pairwise_map]
  exact h.2.imp (fun h => ahead_lle h)⟩
open Classical in
/-- A place, put ahead of the first one that it is ahead of. -/
noncomputable def insP (T : List UInt8) (i : Nat) : List Nat → List Nat
  | [] => [i]
  | k :: t => if Ahead T i k then i :: k :: t else k :: insP T i t
theorem insP_perm (T : List UInt8) (i : Nat) : ∀ l, (insP T i l).Perm (i :: l)
  | [] => List.Perm.refl _
  | k :: t => by
    unfold insP
    split
    · exact List.Perm.refl _
    · exact ((insP_perm T i t).cons k).trans (List.Perm.swap i k t)
theorem insP_sorted (T : List UInt8) (i : Nat) : ∀ l, l.Pairwise (Ahead T) → i ∉ l → (insP T i l).Pairwise (Ahead T)
  | [], _, _ => List.pairwise_singleton _ _
  | k :: t, h, hn => by
    obtain ⟨h1, h2⟩ := List.pairwise_cons.1 h
    unfold insP
    split
    · rename_i ha
      exact List.pairwise_cons.2 ⟨fun x hx => by
        rcases List.mem_cons.1 hx with rfl | hx
        · exact ha
        · exact ahead_trans ha (h1 x hx), h⟩
    · rename_i ha
      have hki : Ahead T k i := (ahead_total (fun e => hn (by rw [e]; exact List.mem_cons_self ..))).resolve_left ha
      refine List.pairwise_cons.2 ⟨fun x hx => ?_, insP_sorted T i t h2 (fun h => hn (List.mem_cons_of_mem _ h))⟩
      rcases List.mem_cons.1 ((insP_perm T i t).mem_iff.1 hx) with rfl | hx
      · exact hki
      · exact h1 x hx
/-- The first k places, each put where it belongs. -/
noncomputable def sortP (T : List UInt8) : Nat → List Nat
  | 0 => []
  | k + 1 => insP T k (sortP T k)
theorem sortP_perm (T : List UInt8) : ∀ k, (sortP T k).Perm (List.range k)
  | 0 => List.Perm.refl _
  | k + 1 => by
    rw [List.range_succ]
    exact ((insP_perm T k _).trans ((sortP_perm T k).cons k)).trans (List.perm_append_comm (l₁ := [k]) (l₂ := List.range k))
theorem sortP_sorted (T : List UInt8) : ∀ k, (sortP T k).Pairwise (Ahead T)
  | 0 => List.Pairwise.nil
  | k + 1 => insP_sorted T k _ (sortP_sorted T k) (fun h => by
    have := List.mem_range.1 ((sortP_perm T k).mem_iff.1 h)
    omega)
theorem sortP_is (T : List UInt8) : IsSorted T (sortP T T.length) := ⟨sortP_perm T _, sortP_sorted T _⟩

/-! ### Of a rotation of the text the last bytes are the same -/
theorem turn_perm (T : List UInt8) (j : Nat) (hj : j ≤ T.length) : ((List.range T.length).map (rot (rot T j))).Perm ((List.range T.length).map (rot T)) := by
  obtain ⟨m, hm⟩ : ∃ m, T.length = m + j := ⟨T.length - j, by omega⟩
  have e1 : (List.range T.length).map (rot (rot T j)) = (List.range m).map (fun i => rot T (j + i)) ++ (List.range j).map (rot T) := by
    rw [hm, List.range_add, List.map_append, List.map_map]
    congr 1
    · apply List.map_congr_left
      intro i hi
      have := List.mem_range.1 hi
      exact rot_add T j i (by omega)
    · apply List.map_congr_left
      intro i hi
      have := List.mem_range.1 hi
      show rot (rot T j) (m + i) = rot T i
      have h1 := rot_back T j hj
      rw [show T.length - j = m by omega] at h1
      rw [← rot_add (rot T j) m i (by rw [rot_len T j hj]; omega), h1]
  have e2 : (List.range T.length).map (rot T) = (List.range j).map (rot T) ++ (List.range m).map (fun i => rot T (j + i)) := by
    rw [hm, Nat.add_comm m j, List.range_add, List.map_append, List.map_map]
    rfl
  rw [e1, e2]
  exact List.perm_append_comm
theorem lasts_turn {T : List UInt8} {j : Nat} {P Q : List Nat} (hj : j ≤ T.length) (hP : IsOrd T P) (hQ : IsOrd (rot T j) Q) : lasts (rot T j) Q = lasts T P := by
  have hl := rot_len T j hj
  have h1 : Q.map (rot (rot T j)) = P.map (rot T) := by
    refine sorted_one ?_ hQ.2 hP.2
    have h2 := hQ.1.map (rot (rot T j))
    rw [hl] at h2
    exact (h2.trans (turn_perm T j hj)).trans (hP.1.map (rot T)).symm
  have h3 : (Q.map (rot (rot T j))).map (fun s => s.getLastD 0) = (P.map (rot T)).map (fun s => s.getLastD 0) := by rw [h1]
  rw [List.map_map, List.map_map] at h3
  exact h3
/-- The last bytes are those of the text, in another order. -/
theorem lasts_perm {T : List UInt8} {P : List Nat} (hn : 0 < T.length) (hP : IsOrd T P) : (lasts T P).Perm T := by
  obtain ⟨m, hm⟩ : ∃ m, T.length = m + 1 := ⟨T.length - 1, by omega⟩
  have hlast : ∀ i, i < T.length → (rot T (i + 1)).getLastD 0 = T.getD i 0 := fun i hi => by
    unfold rot
    rw [List.take_succ_eq_append_getElem hi, ← List.append_assoc, List.getLastD_concat, List.getD_eq_getElem?_getD, List.getElem?_eq_getElem hi]
    rfl
  have h0 : (rot T 0).getLastD 0 = T.getD m 0 := by
    have h5 := hlast m (by omega)
    rw [show m + 1 = T.length by omega, rot_all] at h5
    rw [rot_zero]
    exact h5
  have e1 : T = (List.range T.length).map fun i => T.getD i 0 := by
    apply List.ext_getElem
    · simp
    · intro i h1 h2
      rw [List.getElem_map, List.getElem_range, List.getD_eq_getElem?_getD, List.getElem?_eq_getElem h1]
      rfl
  have h1 : (lasts T P).Perm ((List.range T.length).map fun p => (rot T p).getLastD 0) := hP.1.map _
  have e2 : (List.range T.length).map (fun p => (rot T p).getLastD 0) = T.getD m 0 :: (List.range m).map fun i => T.getD i 0 := by
    rw [hm, List.range_succ_eq_map, List.map_cons, List.map_map, h0]
    congr 1
    apply List.map_congr_left
    intro i hi
    have := List.mem_range.1 hi
    exact hlast i (by omega)
  have e3 : T = (List.range m).map (fun i => T.getD i 0) ++ [T.getD m 0] := by
    conv => lhs; rw [e1, hm, List.range_succ, List.map_append]
    rfl
  rw [e2] at h1
  refine h1.trans ?_
  conv => rhs; rw [e3]
  exact List.perm_append_comm (l₁ := [T.getD m 0]) (l₂ := (List.range m).map fun i => T.getD i 0)
end BwtM
end Go.Proofs.Ytfedhppcmmponaa

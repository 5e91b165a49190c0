/-
  LAYERS 29 AND 30, THE MATHEMATICS: lists of numbers, each at most once; turns by quanta. No program is named here.
-/
namespace Go.Proofs.Ytgdgjalfabffcaa
namespace DrrM
/-! ### Queues (layer 29) -/
/-- The place of a number in a list, or -1. -/
def place : List Int → Int → Int
  | [], _ => -1
  | x :: l, n => if x = n then 0 else (if place l n < 0 then -1 else place l n + 1)
theorem place_ge (l : List Int) (n : Int) : -1 ≤ place l n := by
  induction l with
  | nil => simp [place]
  | cons x l ih => unfold place; split <;> (try split) <;> omega
theorem place_mem (l : List Int) (n : Int) : 0 ≤ place l n ↔ n ∈ l := by
  induction l with
  | nil => simp [place]
  | cons x l ih =>
    unfold place
    by_cases h : x = n
    · simp [h]
    · have h' : ¬ n = x := fun e => h e.symm
      simp only [if_neg h, List.mem_cons, h', false_or, ← ih]
      split <;> omega
def without (l : List Int) (n : Int) : List Int := l.filter (fun x => x != n)
def rotated : List Int → List Int
  | [] => []
  | x :: l => l ++ [x]
theorem rotated_length (l : List Int) : (rotated l).length = l.length := by cases l <;> simp [rotated]
theorem rotated_perm (l : List Int) : (rotated l).Perm l := by
  cases l with
  | nil => exact List.Perm.refl _
  | cons x l => exact (List.perm_append_comm (l₁ := l) (l₂ := [x]))
theorem rotated_nodup {l : List Int} (h : l.Nodup) : (rotated l).Nodup := (rotated_perm l).nodup_iff.2 h
theorem mem_rotated {l : List Int} {x : Int} : x ∈ rotated l ↔ x ∈ l := (rotated_perm l).mem_iff
theorem without_nodup {l : List Int} (h : l.Nodup) (n : Int) : (without l n).Nodup := h.filter _
theorem mem_without {l : List Int} {n x : Int} : x ∈ without l n ↔ x ∈ l ∧ x ≠ n := by simp [without]
theorem with_nodup {l : List Int} {n : Int} (h : l.Nodup) (hn : n ∉ l) : (l ++ [n]).Nodup := by
  rw [List.nodup_append]
  refine ⟨h, by simp, fun a ha b hb => ?_⟩
  simp at hb
  subst hb
  exact fun e => hn (e ▸ ha)
/-- The front taken away is the list without it. -/
theorem without_front {x : Int} {l : List Int} (h : (x :: l).Nodup) : without (x :: l) x = l := by
  unfold without
  rw [List.nodup_cons] at h
  simp only [List.filter_cons, bne_self_eq_false, Bool.false_eq_true, if_false]
  apply List.filter_eq_self.2
  intro a ha
  rw [bne_iff_ne]
  exact fun e => h.1 (e ▸ ha)
theorem without_length_lt {l : List Int} {n : Int} (h : n ∈ l) : (without l n).length < l.length := by
  unfold without
  induction l with
  | nil => simp at h
  | cons x l ih =>
    by_cases e : x = n
    · subst e
      simp only [List.filter_cons, bne_self_eq_false, Bool.false_eq_true, if_false, List.length_cons]
      have := List.length_filter_le (fun y => y != x) l
      omega
    · have h2 : n ∈ l := by
        rcases List.mem_cons.1 h with h | h
        · exact absurd h.symm e
        · exact h
      have := ih h2
      simp only [List.filter_cons, bne_iff_ne, ne_eq, e, not_false_eq_true, if_true, List.length_cons]
      omega
/-- Rotated k times. -/
def rotN : Nat → List Int → List Int
  | 0, l => l
  | k + 1, l => rotN k (rotated l)
theorem rotN_split : ∀ (k : Nat) (l : List Int), k ≤ l.length → rotN k l = l.drop k ++ l.take k
  | 0, l, _ => by simp [rotN]
  | k + 1, [], h => by simp at h
  | k + 1, x :: l, h => by
    rw [rotN, rotated, rotN_split k (l ++ [x]) (by simp at h ⊢; omega)]
    have hk : k ≤ l.length := by simpa using h
    rw [List.drop_append_of_le_length hk, List.take_append_of_le_length hk, List.drop_succ_cons, List.take_succ_cons]
    simp
/-- ROTATED AS OFTEN AS THERE ARE NUMBERS, A LIST IS AS IT WAS. -/
theorem rotN_all (l : List Int) : rotN l.length l = l := by
  rw [rotN_split _ _ (Nat.le_refl _), List.drop_length, List.take_length, List.nil_append]
theorem rotN_succ (k : Nat) (l : List Int) : rotN (k + 1) l = rotated (rotN k l) := by
  induction k generalizing l with
  | zero => rfl
  | succ k ih => rw [rotN, ih, rotN]
theorem rotN_head {l : List Int} {k : Nat} (h : k < l.length) : ∃ r, rotN k l = l.getD k 0 :: r := by
  rw [rotN_split k l (by omega), List.drop_eq_getElem_cons h]
  refine ⟨l.drop (k + 1) ++ l.take k, ?_⟩
  rw [List.getD_eq_getElem?_getD, List.getElem?_eq_getElem h]
  rfl
/-! ### Schedulers (layer 30) -/
/-- A scheduler: quanta, credits, jobs by tenants; the ring. -/
structure DS where
  q : List Int
  c : List Int
  j : List (List Int)
  r : List Nat
def DS.crd (s : DS) (t : Nat) : Int := s.c.getD t 0
def DS.qua (s : DS) (t : Nat) : Int := s.q.getD t 0
def DS.job (s : DS) (t : Nat) : List Int := s.j.getD t []
def new (q : List Int) : DS := ⟨q, List.replicate q.length 0, List.replicate q.length [], []⟩
def may (q : List Int) : Prop := (1 ≤ q.length ∧ q.length ≤ 16) ∧ ∀ x ∈ q, 1 ≤ x ∧ x ≤ 1099511627776
/-- The first tenant of some that has a job. -/
def whoseL : List (List Int) → Int → Option Nat
  | [], _ => none
  | l :: ls, x => if x ∈ l then some 0 else (whoseL ls x).map (· + 1)
def DS.whose (s : DS) (x : Int) : Option Nat := whoseL s.j x
theorem whoseL_some : ∀ {ls : List (List Int)} {x : Int} {t : Nat}, whoseL ls x = some t → t < ls.length ∧ x ∈ ls.getD t []
  | [], x, t, h => by simp [whoseL] at h
  | l :: ls, x, t, h => by
    unfold whoseL at h
    split at h
    · rename_i hx
      cases h
      exact ⟨by simp, by simpa using hx⟩
    · cases hw : whoseL ls x with
      | none => rw [hw] at h; cases h
      | some u =>
        rw [hw] at h
        cases h
        obtain ⟨h1, h2⟩ := whoseL_some hw
        exact ⟨by simpa using h1, by simpa using h2⟩
theorem whoseL_none : ∀ {ls : List (List Int)} {x : Int}, whoseL ls x = none → ∀ t, x ∉ ls.getD t []
  | [], x, _, t => by simp
  | l :: ls, x, h, t => by
    unfold whoseL at h
    split at h
    · cases h
    · rename_i hx
      have h2 : whoseL ls x = none := by simpa using h
      cases t with
      | zero => simpa using hx
      | succ t => simpa using whoseL_none h2 t
def withT (r : List Nat) (t : Nat) : List Nat := r ++ [t]
def withoutT (r : List Nat) (t : Nat) : List Nat := r.filter (fun x => x != t)
def rotT : List Nat → List Nat
  | [] => []
  | x :: r => r ++ [x]
theorem rotT_perm (r : List Nat) : (rotT r).Perm r := by
  cases r with
  | nil => exact List.Perm.refl _
  | cons x l => exact (List.perm_append_comm (l₁ := l) (l₂ := [x]))
/-- A state with another tenant's credit, jobs. -/
def DS.setC (s : DS) (t : Nat) (x : Int) : DS := { s with c := s.c.set t x }
def DS.setJ (s : DS) (t : Nat) (l : List Int) : DS := { s with j := s.j.set t l }
def DS.setR (s : DS) (r : List Nat) : DS := { s with r := r }
/-- Without a tenant's job. -/
def DS.out (s : DS) (t : Nat) (x : Int) : DS :=
  if without (s.job t) x = [] then ((s.setJ t []).setC t 0).setR (withoutT s.r t) else s.setJ t (without (s.job t) x)
/-- What is so, whatever is done. -/
structure Inv (s : DS) : Prop where
  lc : s.c.length = s.q.length
  lj : s.j.length = s.q.length
  qok : may s.q
  nd : s.r.Nodup
  rng : ∀ t ∈ s.r, t < s.q.length
  iff_ : ∀ t, t < s.q.length → (t ∈ s.r ↔ s.job t ≠ [])
  crd : ∀ t, t < s.q.length → 0 ≤ s.crd t ∧ s.crd t ≤ s.qua t
  idle : ∀ t, t < s.q.length → s.job t = [] → s.crd t = 0
  once : ∀ t, t < s.q.length → (s.job t).Nodup
  apart : ∀ t u x, t < s.q.length → u < s.q.length → x ∈ s.job t → x ∈ s.job u → t = u
theorem getD_set {α : Type} (l : List α) (t u : Nat) (x d : α) : (l.set t x).getD u d = if u = t ∧ t < l.length then x else l.getD u d := by
  rw [List.getD_eq_getElem?_getD, List.getD_eq_getElem?_getD, List.getElem?_set]
  by_cases h : t = u
  · subst h
    by_cases h2 : t < l.length
    · simp [h2]
    · simp [h2]
  · have h' : ¬ u = t := fun e => h e.symm
    simp [h, h']
theorem DS.job_setJ (s : DS) (t u : Nat) (l : List Int) (h : t < s.j.length) : (s.setJ t l).job u = if u = t then l else s.job u := by
  unfold DS.job DS.setJ
  dsimp only
  rw [getD_set]
  simp [h]
theorem DS.crd_setC (s : DS) (t u : Nat) (x : Int) (h : t < s.c.length) : (s.setC t x).crd u = if u = t then x else s.crd u := by
  unfold DS.crd DS.setC
  dsimp only
  rw [getD_set]
  simp [h]
theorem qua_pos {s : DS} (h : Inv s) {t : Nat} (ht : t < s.q.length) : 1 ≤ s.qua t ∧ s.qua t ≤ 1099511627776 := by
  unfold DS.qua
  rw [List.getD_eq_getElem?_getD, List.getElem?_eq_getElem ht]
  exact h.qok.2 _ (List.getElem_mem ht)
theorem Inv.new {q : List Int} (h : may q) : Inv (new q) := by
  have hj : ∀ t, (DrrM.new q).job t = [] := fun t => by
    unfold DS.job DrrM.new
    dsimp only
    rw [List.getD_eq_getElem?_getD, List.getElem?_replicate]
    split <;> rfl
  have hc : ∀ t, (DrrM.new q).crd t = 0 := fun t => by
    unfold DS.crd DrrM.new
    dsimp only
    rw [List.getD_eq_getElem?_getD, List.getElem?_replicate]
    split <;> rfl
  refine ⟨by simp [DrrM.new], by simp [DrrM.new], h, by simp [DrrM.new], fun t ht => by simp [DrrM.new] at ht, fun t ht => ?_, fun t ht => ?_, fun t ht _ => hc t, fun t ht => by rw [hj]; simp, fun t u x _ _ hx => by rw [hj] at hx; simp at hx⟩
  · rw [hj]; simp [DrrM.new]
  · rw [hc]
    have : 1 ≤ (DrrM.new q).qua t := by
      unfold DS.qua
      rw [List.getD_eq_getElem?_getD, List.getElem?_eq_getElem ht]
      exact (h.2 _ (List.getElem_mem ht)).1
    omega
/-- Add: the job at its tenant's end, the tenant at the ring's, if it was not in it. -/
def DS.add (s : DS) (t : Nat) (x : Int) : DS :=
  if t ∈ s.r then s.setJ t (s.job t ++ [x]) else (s.setJ t (s.job t ++ [x])).setR (withT s.r t)
theorem Inv.add {s : DS} (h : Inv s) {t : Nat} {x : Int} (ht : t < s.q.length) (hx : s.whose x = none) : Inv (s.add t x) := by
  have hnone := whoseL_none hx
  have hlt : t < s.j.length := by rw [h.lj]; exact ht
  have hjob : ∀ u, (s.setJ t (s.job t ++ [x])).job u = if u = t then s.job t ++ [x] else s.job u := fun u => s.job_setJ t u _ hlt
  have once : ∀ u, u < s.q.length → ((s.setJ t (s.job t ++ [x])).job u).Nodup := fun u hu => by
    rw [hjob]
    split
    · exact with_nodup (h.once t ht) (hnone t)
    · exact h.once u hu
  have apart : ∀ u v y, u < s.q.length → v < s.q.length → y ∈ (s.setJ t (s.job t ++ [x])).job u → y ∈ (s.setJ t (s.job t ++ [x])).job v → u = v := fun u v y hu hv h1 h2 => by
    rw [hjob] at h1 h2
    by_cases e1 : u = t
    · by_cases e2 : v = t
      · rw [e1, e2]
      · rw [if_pos e1] at h1
        rw [if_neg e2] at h2
        rcases List.mem_append.1 h1 with h1 | h1
        · rw [e1]; exact h.apart t v y ht hv h1 h2
        · simp at h1; subst h1; exact absurd h2 (hnone v)
    · rw [if_neg e1] at h1
      by_cases e2 : v = t
      · rw [if_pos e2] at h2
        rcases List.mem_append.1 h2 with h2 | h2
        · rw [e2]; exact h.apart u t y hu ht h1 h2
        · simp at h2; subst h2; exact absurd h1 (hnone u)
      · rw [if_neg e2] at h2; exact h.apart u v y hu hv h1 h2
  unfold DS.add
  by_cases hr : t ∈ s.r
  · rw [if_pos hr]
    refine ⟨h.lc, by simp [DS.setJ, h.lj], h.qok, h.nd, h.rng, fun u hu => ?_, h.crd, fun u hu he => ?_, once, apart⟩
    · rw [hjob]
      by_cases e : u = t
      · rw [if_pos e]; subst e; simp [DS.setJ, hr]
      · rw [if_neg e]; exact h.iff_ u hu
    · rw [hjob] at he
      by_cases e : u = t
      · rw [if_pos e] at he; simp at he
      · rw [if_neg e] at he; exact h.idle u hu he
  · rw [if_neg hr]
    refine ⟨h.lc, by simp [DS.setJ, DS.setR, h.lj], h.qok, ?_, fun u hu => ?_, fun u hu => ?_, h.crd, fun u hu he => ?_, once, apart⟩
    · show (s.r ++ [t]).Nodup
      rw [List.nodup_append]
      refine ⟨h.nd, by simp, fun a ha b hb => ?_⟩
      simp at hb
      subst hb
      exact fun e => hr (e ▸ ha)
    · have hu' : u ∈ s.r ++ [t] := hu
      rcases List.mem_append.1 hu' with h1 | h1
      · exact h.rng u h1
      · simp at h1; subst h1; exact ht
    · show u ∈ s.r ++ [t] ↔ (s.setJ t (s.job t ++ [x])).job u ≠ []
      rw [hjob]
      by_cases e : u = t
      · rw [if_pos e]; subst e; simp
      · rw [if_neg e]
        simp only [List.mem_append, List.mem_singleton, e, or_false]
        exact h.iff_ u hu
    · have he' : (s.setJ t (s.job t ++ [x])).job u = [] := he
      rw [hjob] at he'
      by_cases e : u = t
      · rw [if_pos e] at he'; simp at he'
      · rw [if_neg e] at he'; exact h.idle u hu he'
theorem Inv.out {s : DS} (h : Inv s) {t : Nat} {x : Int} (ht : t < s.q.length) (hx : x ∈ s.job t) : Inv (s.out t x) := by
  have hlt : t < s.j.length := by rw [h.lj]; exact ht
  have hlc : t < s.c.length := by rw [h.lc]; exact ht
  have sub : ∀ y, y ∈ without (s.job t) x → y ∈ s.job t := fun y hy => (mem_without.1 hy).1
  unfold DS.out
  by_cases he : without (s.job t) x = []
  · rw [if_pos he]
    have hjob : ∀ u, (((s.setJ t []).setC t 0).setR (withoutT s.r t)).job u = if u = t then [] else s.job u := fun u => s.job_setJ t u [] hlt
    have hcrd : ∀ u, (((s.setJ t []).setC t 0).setR (withoutT s.r t)).crd u = if u = t then 0 else s.crd u := fun u => (s.setJ t []).crd_setC t u 0 hlc
    refine ⟨by simp [DS.setJ, DS.setC, DS.setR, h.lc], by simp [DS.setJ, DS.setC, DS.setR, h.lj], h.qok, h.nd.filter _, fun u hu => ?_, fun u hu => ?_, fun u hu => ?_, fun u hu he => ?_, fun u hu => ?_, fun u v y hu hv h1 h2 => ?_⟩
    · exact h.rng u (List.mem_filter.1 hu).1
    · rw [hjob]
      show u ∈ s.r.filter (fun x => x != t) ↔ _
      rw [List.mem_filter, bne_iff_ne]
      by_cases e : u = t
      · rw [if_pos e]; simp [e]
      · rw [if_neg e]
        simp only [ne_eq, e, not_false_eq_true, and_true]
        exact h.iff_ u hu
    · rw [hcrd]
      split
      · have h2 : (0 : Int) ≤ s.qua u := by have := (qua_pos h hu).1; omega
        exact ⟨Int.le_refl _, h2⟩
      · exact h.crd u hu
    · rw [hcrd]
      rw [hjob] at he
      by_cases e : u = t
      · rw [if_pos e]
      · rw [if_neg e]; rw [if_neg e] at he; exact h.idle u hu he
    · rw [hjob]
      split
      · simp
      · exact h.once u hu
    · rw [hjob] at h1 h2
      by_cases e1 : u = t
      · rw [if_pos e1] at h1; simp at h1
      · by_cases e2 : v = t
        · rw [if_pos e2] at h2; simp at h2
        · rw [if_neg e1] at h1; rw [if_neg e2] at h2; exact h.apart u v y hu hv h1 h2
  · rw [if_neg he]
    have hjob : ∀ u, (s.setJ t (without (s.job t) x)).job u = if u = t then without (s.job t) x else s.job u := fun u => s.job_setJ t u _ hlt
    have hne : s.job t ≠ [] := fun e => by rw [e] at hx; simp at hx
    refine ⟨h.lc, by simp [DS.setJ, h.lj], h.qok, h.nd, h.rng, fun u hu => ?_, h.crd, fun u hu hq => ?_, fun u hu => ?_, fun u v y hu hv h1 h2 => ?_⟩
    · rw [hjob]
      by_cases e : u = t
      · rw [if_pos e]
        have h1 := (h.iff_ u hu)
        rw [e] at h1
        show u ∈ s.r ↔ _
        rw [e]
        exact ⟨fun _ => he, fun _ => h1.2 hne⟩
      · rw [if_neg e]; exact h.iff_ u hu
    · rw [hjob] at hq
      by_cases e : u = t
      · rw [if_pos e] at hq; exact absurd hq he
      · rw [if_neg e] at hq; exact h.idle u hu hq
    · rw [hjob]
      split
      · exact without_nodup (h.once t ht) x
      · exact h.once u hu
    · rw [hjob] at h1 h2
      have f1 : y ∈ s.job u := by
        by_cases e1 : u = t
        · rw [if_pos e1] at h1; rw [e1]; exact sub y h1
        · rw [if_neg e1] at h1; exact h1
      have f2 : y ∈ s.job v := by
        by_cases e2 : v = t
        · rw [if_pos e2] at h2; rw [e2]; exact sub y h2
        · rw [if_neg e2] at h2; exact h2
      exact h.apart u v y hu hv f1 f2
/-- Another credit of a tenant of the ring. -/
theorem Inv.setC {s : DS} (h : Inv s) {t : Nat} {x : Int} (ht : t < s.q.length) (hx : 0 ≤ x ∧ x ≤ s.qua t) (hj : s.job t ≠ [] ∨ x = 0) : Inv (s.setC t x) := by
  have hcrd : ∀ u, (s.setC t x).crd u = if u = t then x else s.crd u := fun u => s.crd_setC t u x (by rw [h.lc]; exact ht)
  refine ⟨by simp [DS.setC, h.lc], h.lj, h.qok, h.nd, h.rng, h.iff_, fun u hu => ?_, fun u hu he => ?_, h.once, h.apart⟩
  · rw [hcrd]
    split
    · rename_i e; rw [e]; exact hx
    · exact h.crd u hu
  · rw [hcrd]
    split
    · rename_i e
      rcases hj with hj | hj
      · exact absurd (e ▸ he) hj
      · exact hj
    · exact h.idle u hu he
/-- The same tenants in the ring, in another order. -/
theorem Inv.setR {s : DS} (h : Inv s) {r : List Nat} (hp : r.Perm s.r) : Inv (s.setR r) :=
  ⟨h.lc, h.lj, h.qok, hp.nodup_iff.2 h.nd, fun t ht => h.rng t (hp.mem_iff.1 ht), fun t ht => hp.mem_iff.trans (h.iff_ t ht), h.crd, h.idle, h.once, h.apart⟩
/-- A tenant's jobs in another order. -/
theorem Inv.setJ {s : DS} (h : Inv s) {t : Nat} {l : List Int} (ht : t < s.q.length) (hp : l.Perm (s.job t)) : Inv (s.setJ t l) := by
  have hjob : ∀ u, (s.setJ t l).job u = if u = t then l else s.job u := fun u => s.job_setJ t u _ (by rw [h.lj]; exact ht)
  have hm : ∀ u y, y ∈ (s.setJ t l).job u ↔ y ∈ s.job u := fun u y => by
    rw [hjob]
    split
    · rename_i e; rw [e]; exact hp.mem_iff
    · exact Iff.rfl
  have hnil : ∀ u, (s.setJ t l).job u = [] ↔ s.job u = [] := fun u => by
    rw [hjob]
    split
    · rename_i e; rw [e]; exact ⟨fun h => by rw [h] at hp; exact hp.nil_eq.symm, fun h => by rw [h] at hp; exact hp.eq_nil⟩
    · exact Iff.rfl
  refine ⟨h.lc, by simp [DS.setJ, h.lj], h.qok, h.nd, h.rng, fun u hu => ?_, h.crd, fun u hu he => h.idle u hu ((hnil u).1 he), fun u hu => ?_, fun u v y hu hv h1 h2 => h.apart u v y hu hv ((hm u y).1 h1) ((hm v y).1 h2)⟩
  · exact (h.iff_ u hu).trans (not_congr (hnil u).symm)
  · rw [hjob]
    split
    · exact hp.nodup_iff.2 (h.once t ht)
    · exact h.once u hu
/-- As many tenants are in the ring as have jobs. -/
theorem Inv.count {s : DS} (h : Inv s) : s.r.length = ((List.range s.q.length).filter (fun t => !(s.job t).isEmpty)).length := by
  have hp : s.r.Perm ((List.range s.q.length).filter (fun t => !(s.job t).isEmpty)) := by
    rw [List.perm_ext_iff_of_nodup h.nd (List.nodup_range.filter _)]
    intro t
    rw [List.mem_filter, List.mem_range]
    constructor
    · intro ht
      have h1 := h.rng t ht
      have h2 := (h.iff_ t h1).1 ht
      exact ⟨h1, by cases hj : s.job t <;> simp_all⟩
    · rintro ⟨h1, h2⟩
      exact (h.iff_ t h1).2 (fun e => by rw [e] at h2; simp at h2)
  exact hp.length_eq
/-! ### Turns -/
/-- The ring's tenants looked at, each once: till one may use something. -/
def scan (left : List Int) : Nat → DS → DS × Option Nat
  | 0, s => (s, none)
  | k + 1, s =>
    match s.r with
    | [] => (s, none)
    | t :: _ => if left.getD t 0 < 1 then scan left k ((s.setC t 0).setR (rotT s.r)) else ((if s.crd t = 0 then s.setC t (s.qua t) else s), some t)
def next (s : DS) (budget : Int) (left : List Int) : DS × Option Nat := if budget < 1 ∨ left.length ≠ s.q.length then (s, none) else scan left s.r.length s
theorem scan_q (left : List Int) : ∀ (k : Nat) (s : DS), (scan left k s).1.q = s.q
  | 0, s => rfl
  | k + 1, s => by
    unfold scan
    split
    · rfl
    · split
      · exact scan_q left k _
      · split <;> rfl
theorem Inv.scan {left : List Int} : ∀ (k : Nat) {s : DS}, Inv s → Inv (scan left k s).1 ∧ ∀ t, (DrrM.scan left k s).2 = some t → t < s.q.length ∧ (DrrM.scan left k s).1.r.head? = some t ∧ 1 ≤ (DrrM.scan left k s).1.crd t ∧ (DrrM.scan left k s).1.job t ≠ [] ∧ 1 ≤ left.getD t 0
  | 0, s, h => ⟨h, fun t ht => by cases ht⟩
  | k + 1, s, h => by
    unfold DrrM.scan
    split
    · exact ⟨h, fun t ht => by cases ht⟩
    · rename_i t r hr
      have htr : t ∈ s.r := by rw [hr]; exact List.mem_cons_self ..
      have ht := h.rng t htr
      have hj := (h.iff_ t ht).1 htr
      have hq := qua_pos h ht
      split
      · have h1 : Inv (s.setC t 0) := h.setC ht ⟨Int.le_refl _, by omega⟩ (Or.inr rfl)
        have h2 : Inv ((s.setC t 0).setR (rotT s.r)) := h1.setR (rotT_perm s.r)
        exact Inv.scan k h2
      · rename_i hl
        by_cases hc : s.crd t = 0
        · rw [if_pos hc]
          refine ⟨h.setC ht ⟨by omega, Int.le_refl _⟩ (Or.inl hj), fun u hu => ?_⟩
          cases hu
          have he : (s.setC t (s.qua t)).crd t = s.qua t := by rw [s.crd_setC t t _ (by rw [h.lc]; exact ht), if_pos rfl]
          exact ⟨ht, by show s.r.head? = _; rw [hr]; rfl, by show 1 ≤ (s.setC t (s.qua t)).crd t; rw [he]; exact hq.1, hj, by omega⟩
        · rw [if_neg hc]
          refine ⟨h, fun u hu => ?_⟩
          cases hu
          have := (h.crd t ht).1
          exact ⟨ht, by rw [hr]; rfl, by show 1 ≤ s.crd t; omega, hj, by omega⟩
/-- A turn's end, ahead of the ring. -/
def mid (s : DS) (t : Nat) (x used : Int) (stopped : Bool) : DS :=
  if stopped = true then (s.setC t (s.crd t - used)).out t x
  else if s.crd t - used = 0 then (s.setC t (s.crd t - used)).setJ t (rotated (s.job t)) else s.setC t (s.crd t - used)
/-- A turn's end. -/
def ended (s : DS) (t : Nat) (x used : Int) (stopped : Bool) : DS :=
  if s.crd t - used = 0 ∧ (mid s t x used stopped).job t ≠ [] then (mid s t x used stopped).setR (rotT (mid s t x used stopped).r) else mid s t x used stopped
theorem Inv.ended {s : DS} (h : Inv s) {t : Nat} {x used : Int} {stopped : Bool} (ht : t ∈ s.r) (hx : x ∈ s.job t) (hu : 0 ≤ used ∧ used ≤ s.crd t) : Inv (ended s t x used stopped) := by
  have htq := h.rng t ht
  have hj := (h.iff_ t htq).1 ht
  have hc := h.crd t htq
  have h1 : Inv (s.setC t (s.crd t - used)) := h.setC htq (by omega) (Or.inl hj)
  have h2 : Inv (mid s t x used stopped) := by
    unfold mid
    split
    · exact h1.out htq hx
    · split
      · exact h1.setJ htq (rotated_perm _)
      · exact h1
  unfold DrrM.ended
  split
  · exact h2.setR (rotT_perm _)
  · exact h2
theorem mid_false (s : DS) (t : Nat) (x used : Int) : mid s t x used false = if s.crd t - used = 0 then (s.setC t (s.crd t - used)).setJ t (rotated (s.job t)) else s.setC t (s.crd t - used) := by
  unfold mid
  rw [if_neg (by simp)]
/-! ### Fairness -/
/-- The ring of all n tenants, from f on. -/
def ringAt (n f : Nat) : List Nat := (List.range n).drop f ++ (List.range n).take f
theorem ringAt_head {n f : Nat} (h : f < n) : ringAt n f = f :: ((List.range n).drop (f + 1) ++ (List.range n).take f) := by
  unfold ringAt
  rw [List.drop_eq_getElem_cons (by simpa using h)]
  simp
theorem ringAt_rot {n f : Nat} (h : f < n) : rotT (ringAt n f) = ringAt n (f + 1) := by
  rw [ringAt_head h]
  show (List.range n).drop (f + 1) ++ (List.range n).take f ++ [f] = _
  unfold ringAt
  rw [List.append_assoc, List.take_add_one, List.getElem?_range h]
  rfl
theorem ringAt_full (n : Nat) : ringAt n n = ringAt n 0 := by
  unfold ringAt
  rw [List.drop_of_length_le (by simp), List.take_of_length_le (by simp)]
  simp
/-- What each tenant used: K rounds are over, and those of the tenants ahead of f. -/
structure Fair (s : DS) (u : Nat → Int) (K : Int) (f : Nat) : Prop where
  inv : Inv s
  lt : f < s.q.length
  ring : s.r = ringAt s.q.length f
  k0 : 0 ≤ K
  zero : ∀ t, t < s.q.length → t ≠ f → s.crd t = 0
  ahead : ∀ t, t < f → u t = s.qua t * K + s.qua t
  rest : ∀ t, t < s.q.length → f < t → u t = s.qua t * K
  here : u f = s.qua f * K + (if s.crd f = 0 then 0 else s.qua f - s.crd f)
theorem Fair.bounds {s : DS} {u : Nat → Int} {K : Int} {f : Nat} (h : Fair s u K f) {t : Nat} (ht : t < s.q.length) : s.qua t * K ≤ u t ∧ u t ≤ s.qua t * K + s.qua t := by
  have hq := qua_pos h.inv ht
  rcases Nat.lt_trichotomy t f with e | e | e
  · rw [h.ahead t e]; omega
  · subst e
    have hc := h.inv.crd t ht
    rw [h.here]
    split <;> omega
  · rw [h.rest t ht e]; omega
/-- ANY TWO DIFFER BY ONE QUANTUM AT MOST. -/
theorem Fair.diff {s : DS} {u : Nat → Int} {K : Int} {f : Nat} (h : Fair s u K f) {a c : Nat} (ha : a < s.q.length) (hc : c < s.q.length) : u a * s.qua c - u c * s.qua a ≤ s.qua a * s.qua c := by
  have h1 := (h.bounds ha).2
  have h2 := (h.bounds hc).1
  have q1 := (qua_pos h.inv ha).1
  have q2 := (qua_pos h.inv hc).1
  have e1 : u a * s.qua c ≤ (s.qua a * K + s.qua a) * s.qua c := Int.mul_le_mul_of_nonneg_right h1 (by omega)
  have e2 : s.qua c * K * s.qua a ≤ u c * s.qua a := Int.mul_le_mul_of_nonneg_right h2 (by omega)
  have e3 : (s.qua a * K + s.qua a) * s.qua c = s.qua c * K * s.qua a + s.qua a * s.qua c := by
    rw [Int.add_mul, Int.mul_right_comm (s.qua a) K (s.qua c), Int.mul_comm (s.qua a) (s.qua c), Int.mul_right_comm (s.qua c) (s.qua a) K]
  omega
/-- The next turn is the first tenant's, for as much as its credit and the budget allow. -/
theorem Fair.next {s : DS} {u : Nat → Int} {K : Int} {f : Nat} (h : Fair s u K f) {left : List Int} {b : Int} (hb : 1 ≤ b) (hl : left.length = s.q.length) (hall : ∀ t, t < s.q.length → 1 ≤ left.getD t 0) :
    next s b left = ((if s.crd f = 0 then s.setC f (s.qua f) else s), some f) := by
  unfold DrrM.next
  rw [if_neg (by omega)]
  have hr := h.ring
  rw [ringAt_head h.lt] at hr
  have hlen : s.r.length = (s.r.length - 1) + 1 := by rw [hr]; simp
  rw [hlen]
  unfold scan
  rw [hr]
  dsimp only
  rw [if_neg (by have := hall f h.lt; omega)]
/-- The turn's steps are all used. -/
theorem Fair.spent {s : DS} {u : Nat → Int} {K : Int} {f : Nat} (h : Fair s u K f) {x n : Int} {s1 : DS} (hs1 : s1 = if s.crd f = 0 then s.setC f (s.qua f) else s) (hn : 1 ≤ n ∧ n ≤ s1.crd f) (hx : x ∈ s1.job f) :
    ∃ K2 f2, Fair (ended s1 f x n false) (fun t => if t = f then u f + n else u t) K2 f2 ∧ (ended s1 f x n false).q = s.q := by
  have hlc : f < s.c.length := by rw [h.inv.lc]; exact h.lt
  have hqf := qua_pos h.inv h.lt
  have hcf := h.inv.crd f h.lt
  have hfr : f ∈ s.r := by rw [h.ring, ringAt_head h.lt]; exact List.mem_cons_self ..
  have hjf := (h.inv.iff_ f h.lt).1 hfr
  have hi1 : Inv s1 := by
    rw [hs1]
    split
    · exact h.inv.setC h.lt ⟨by omega, Int.le_refl _⟩ (Or.inl hjf)
    · exact h.inv
  have hq1 : s1.q = s.q := by rw [hs1]; split <;> rfl
  have hr1 : s1.r = s.r := by rw [hs1]; split <;> rfl
  have hz1 : ∀ t, t < s.q.length → t ≠ f → s1.crd t = 0 := fun t ht hne => by
    rw [hs1]
    split
    · rw [s.crd_setC f t _ hlc, if_neg hne]; exact h.zero t ht hne
    · exact h.zero t ht hne
  have hu1 : u f = s.qua f * K + (s.qua f - s1.crd f) := by
    rw [h.here, hs1]
    by_cases e : s.crd f = 0
    · rw [if_pos e, if_pos e, s.crd_setC f f _ hlc, if_pos rfl]; omega
    · rw [if_neg e, if_neg e]
  have hi2 : Inv (ended s1 f x n false) := hi1.ended (by rw [hr1]; exact hfr) hx ⟨by omega, hn.2⟩
  have hlc1 : f < s1.c.length := by rw [hi1.lc, hq1]; exact h.lt
  have hlj1 : f < s1.j.length := by rw [hi1.lj, hq1]; exact h.lt
  have hqq : (ended s1 f x n false).q = s.q := by
    rw [← hq1]
    unfold ended
    rw [mid_false]
    by_cases hl : s1.crd f - n = 0
    · rw [if_pos hl]; split <;> rfl
    · rw [if_neg hl]; split <;> rfl
  have hcrd : ∀ t, (ended s1 f x n false).crd t = if t = f then s1.crd f - n else s1.crd t := fun t => by
    rw [← s1.crd_setC f t _ hlc1]
    unfold ended
    rw [mid_false]
    by_cases hl : s1.crd f - n = 0
    · rw [if_pos hl]; split <;> rfl
    · rw [if_neg hl]; split <;> rfl
  have hqua : ∀ t, (ended s1 f x n false).qua t = s.qua t := fun t => by unfold DS.qua; rw [hqq]
  by_cases hl : s1.crd f - n = 0
  · have hj2 : ((s1.setC f (s1.crd f - n)).setJ f (rotated (s1.job f))).job f ≠ [] := by
      have e1 := (s1.setC f (s1.crd f - n)).job_setJ f f (rotated (s1.job f)) hlj1
      rw [e1, if_pos rfl]
      intro e
      have h3 := mem_rotated.2 hx
      rw [e] at h3
      simp at h3
    have hring : (ended s1 f x n false).r = rotT s.r := by
      unfold ended
      rw [mid_false, if_pos hl, if_pos ⟨hl, hj2⟩]
      show rotT s1.r = _
      rw [hr1]
    rw [h.ring, ringAt_rot h.lt] at hring
    by_cases hw : f + 1 < s.q.length
    · refine ⟨K, f + 1, ⟨hi2, by rw [hqq]; exact hw, by rw [hqq]; exact hring, h.k0, fun t ht hne => ?_, fun t ht => ?_, fun t ht hft => ?_, ?_⟩, hqq⟩
      · rw [hqq] at ht
        rw [hcrd]
        split
        · exact hl
        · rename_i e; exact hz1 t ht e
      · rw [hqua]
        by_cases e : t = f
        · rw [if_pos e, e, hu1]; omega
        · rw [if_neg e]; exact h.ahead t (by omega)
      · rw [hqq] at ht
        rw [hqua, if_neg (by omega)]
        exact h.rest t ht (by omega)
      · have hc0 : (ended s1 f x n false).crd (f + 1) = 0 := by rw [hcrd, if_neg (by omega)]; exact hz1 _ hw (by omega)
        have hr0 := h.rest _ hw (Nat.lt_succ_self f)
        have hne : ¬ f + 1 = f := by omega
        rw [hqua, if_neg hne, hc0, if_pos rfl, hr0]
        omega
    · have hfn : f + 1 = s.q.length := by have := h.lt; omega
      rw [hfn, ringAt_full] at hring
      have hn0 : 0 < s.q.length := by have := h.lt; omega
      have key : ∀ t, t < s.q.length → (if t = f then u f + n else u t) = s.qua t * (K + 1) := fun t ht => by
        rw [Int.mul_add, Int.mul_one]
        by_cases e : t = f
        · rw [if_pos e, e, hu1]; omega
        · rw [if_neg e]; exact h.ahead t (by omega)
      have hall0 : ∀ t, t < s.q.length → (ended s1 f x n false).crd t = 0 := fun t ht => by
        rw [hcrd]
        split
        · exact hl
        · rename_i e; exact hz1 t ht e
      refine ⟨K + 1, 0, ⟨hi2, by rw [hqq]; exact hn0, by rw [hqq]; exact hring, by have := h.k0; omega, fun t ht _ => hall0 t (by rw [hqq] at ht; exact ht), fun t ht => absurd ht (Nat.not_lt_zero t), fun t ht _ => ?_, ?_⟩, hqq⟩
      · rw [hqq] at ht
        rw [hqua]
        exact key t ht
      · rw [hqua, hall0 0 hn0, if_pos rfl]
        have := key 0 hn0
        omega
  · have hring : (ended s1 f x n false).r = s.r := by
      unfold ended
      rw [mid_false, if_neg hl, if_neg (fun h => hl h.1)]
      show s1.r = _
      rw [hr1]
    refine ⟨K, f, ⟨hi2, by rw [hqq]; exact h.lt, by rw [hqq, hring]; exact h.ring, h.k0, fun t ht hne => ?_, fun t ht => ?_, fun t ht hft => ?_, ?_⟩, hqq⟩
    · rw [hqq] at ht
      rw [hcrd, if_neg hne]
      exact hz1 t ht hne
    · rw [hqua, if_neg (by omega)]
      exact h.ahead t ht
    · rw [hqq] at ht
      rw [hqua, if_neg (by omega)]
      exact h.rest t ht hft
    · rw [hqua, if_pos rfl, hcrd, if_pos rfl, if_neg hl, hu1]
      omega
end DrrM
end Go.Proofs.Ytgdgjalfabffcaa

/-
  LAYER 3 AND 4 AS PLAIN MATHEMATICS: pieces of a text, packed and unpacked. No program is named here.
-/
namespace Go.Proofs.YtnachbjhhpnadaaGreatDoor
namespace RleM

/-- How many bytes of a text are like c at its beginning. -/
def like (c : UInt8) : List UInt8 → Nat
  | [] => 0
  | d :: l => if d = c then like c l + 1 else 0
theorem like_le (c : UInt8) : ∀ l, like c l ≤ l.length
  | [] => Nat.le_refl _
  | d :: l => by
    unfold like
    have := like_le c l
    split <;> simp <;> omega
theorem like_get (c : UInt8) : ∀ (l : List UInt8) (j : Nat), j < like c l → l[j]? = some c
  | [], j, h => by simp [like] at h
  | d :: l, j, h => by
    unfold like at h
    split at h
    · rename_i e
      cases j with
      | zero => simp [e]
      | succ j => simpa using like_get c l j (by omega)
    · omega
theorem like_of (c : UInt8) : ∀ (l : List UInt8) (k : Nat), (∀ j, j < k → l[j]? = some c) → k ≤ like c l
  | _, 0, _ => Nat.zero_le _
  | [], k + 1, h => by have := h 0 (by omega); simp at this
  | d :: l, k + 1, h => by
    have h0 : d = c := by simpa using h 0 (by omega)
    have := like_of c l k (fun j hj => by simpa using h (j + 1) (by omega))
    unfold like
    rw [if_pos h0]; omega
theorem like_stop (c : UInt8) : ∀ (l : List UInt8) (x : UInt8), l[like c l]? = some x → x ≠ c
  | [], x, h => by simp at h
  | d :: l, x, h => by
    unfold like at h
    split at h
    · exact like_stop c l x (by simpa using h)
    · rename_i e
      have : d = x := by simpa using h
      exact this ▸ e
/-- How many bytes the first piece of a text stands for. -/
def row : List UInt8 → Nat
  | [] => 0
  | c :: l => min 255 (like c (c :: l))
theorem row_eq (c : UInt8) (l : List UInt8) : row (c :: l) = min 255 (like c (c :: l)) := rfl
theorem row_pos (c : UInt8) (l : List UInt8) : 1 ≤ row (c :: l) := by
  unfold row like; simp; omega
theorem row_le (l : List UInt8) : row l ≤ l.length := by
  cases l with
  | nil => exact Nat.le_refl _
  | cons c l => have := like_le c (c :: l); rw [row_eq]; omega
theorem row_255 (l : List UInt8) : row l ≤ 255 := by
  cases l with
  | nil => decide
  | cons c l => rw [row_eq]; omega
theorem row_get (c : UInt8) (l : List UInt8) (j : Nat) (h : j < row (c :: l)) : (c :: l)[j]? = some c :=
  like_get c (c :: l) j (by rw [row_eq] at h; omega)
/-- A number that is it. -/
theorem row_of (c : UInt8) (l : List UInt8) (k : Nat) (hk : k ≤ 255) (h : ∀ j, j < k → (c :: l)[j]? = some c) (hs : k = 255 ∨ k = (c :: l).length ∨ ∃ x, (c :: l)[k]? = some x ∧ x ≠ c) : row (c :: l) = k := by
  have h1 := like_of c (c :: l) k h
  rw [row_eq]
  rcases hs with rfl | rfl | ⟨x, hx, hn⟩
  · omega
  · have := like_le c (c :: l); omega
  · rcases Nat.lt_or_ge k (like c (c :: l)) with h2 | h2
    · have := like_get c (c :: l) k h2
      rw [hx] at this
      exact absurd (Option.some.inj this) hn
    · omega

/-- A piece: a byte, and how often. -/
abbrev Pc := UInt8 × Nat
def piecesF : Nat → List UInt8 → List Pc
  | 0, _ => []
  | _, [] => []
  | f + 1, c :: l => (c, row (c :: l)) :: piecesF f ((c :: l).drop (row (c :: l)))
/-- The pieces of a text. -/
def pieces (l : List UInt8) : List Pc := piecesF l.length l
theorem piecesF_more : ∀ (f g : Nat) (l : List UInt8), l.length ≤ f → f ≤ g → piecesF f l = piecesF g l
  | 0, g, l, h, _ => by
    obtain rfl : l = [] := List.eq_nil_of_length_eq_zero (by omega)
    cases g <;> rfl
  | f + 1, 0, l, _, h2 => by omega
  | f + 1, g + 1, [], _, _ => rfl
  | f + 1, g + 1, c :: l, h, h2 => by
    unfold piecesF
    rw [piecesF_more f g _ (by have := row_pos c l; simp at h ⊢; omega) (by omega)]
theorem pieces_nil : pieces [] = [] := rfl
theorem pieces_cons (c : UInt8) (l : List UInt8) : pieces (c :: l) = (c, row (c :: l)) :: pieces ((c :: l).drop (row (c :: l))) := by
  show piecesF (l.length + 1) (c :: l) = _
  unfold piecesF pieces
  rw [piecesF_more ((c :: l).drop (row (c :: l))).length l.length _ (Nat.le_refl _) (by have := row_pos c l; simp; omega)]
/-- What pieces stand for. -/
def flat (ps : List Pc) : List UInt8 := ps.flatMap fun p => List.replicate p.2 p.1
theorem flat_cons (p : Pc) (ps : List Pc) : flat (p :: ps) = List.replicate p.2 p.1 ++ flat ps := rfl
theorem flat_append (ps qs : List Pc) : flat (ps ++ qs) = flat ps ++ flat qs := by simp [flat]
/-- Pieces that are those of a text. -/
def Good : List Pc → Prop
  | [] => True
  | p :: ps => 1 ≤ p.2 ∧ p.2 ≤ 255 ∧ (∀ q, ps.head? = some q → q.1 ≠ p.1 ∨ p.2 = 255) ∧ Good ps
theorem take_row (c : UInt8) (l : List UInt8) : (c :: l).take (row (c :: l)) = List.replicate (row (c :: l)) c := by
  apply List.ext_getElem?
  intro j
  rw [List.getElem?_take, List.getElem?_replicate]
  split
  · exact row_get c l j (by assumption)
  · rfl
theorem row_drop (c : UInt8) (l : List UInt8) (d : UInt8) (h : ((c :: l).drop (row (c :: l))).head? = some d) : d ≠ c ∨ row (c :: l) = 255 := by
  by_cases h255 : row (c :: l) = 255
  · exact Or.inr h255
  · left
    have e : row (c :: l) = like c (c :: l) := by rw [row_eq] at h255 ⊢; omega
    rw [e, List.head?_drop] at h
    exact like_stop c (c :: l) d h
theorem pieces_good : ∀ (n : Nat) (l : List UInt8), l.length ≤ n → Good (pieces l) ∧ flat (pieces l) = l
  | _, [], _ => ⟨trivial, rfl⟩
  | 0, c :: l, h => by simp at h
  | n + 1, c :: l, h => by
    obtain ⟨h1, h2⟩ := pieces_good n ((c :: l).drop (row (c :: l))) (by have := row_pos c l; simp at h ⊢; omega)
    rw [pieces_cons]
    refine ⟨⟨row_pos c l, row_255 (c :: l), fun q hq => ?_, h1⟩, ?_⟩
    · generalize hL : (c :: l).drop (row (c :: l)) = L at *
      cases L with
      | nil => simp [pieces_nil] at hq
      | cons d L =>
        rw [pieces_cons] at hq
        have hq' : (d, row (d :: L)) = q := by simpa using hq
        subst hq'
        exact row_drop c l d (by rw [hL]; rfl)
    · rw [flat_cons, h2, ← take_row]
      exact List.take_append_drop _ _
theorem good (l : List UInt8) : Good (pieces l) := (pieces_good _ l (Nat.le_refl _)).1
theorem flat_pieces (l : List UInt8) : flat (pieces l) = l := (pieces_good _ l (Nat.le_refl _)).2
theorem flat_head {p : Pc} {ps : List Pc} (h : 1 ≤ p.2) : ∃ l, flat (p :: ps) = p.1 :: l := by
  obtain ⟨m, hm⟩ : ∃ m, p.2 = m + 1 := ⟨p.2 - 1, by omega⟩
  rw [flat_cons, hm, List.replicate_succ]
  exact ⟨_, rfl⟩
theorem flat_drop (p : Pc) (ps : List Pc) : (flat (p :: ps)).drop p.2 = flat ps := by
  rw [flat_cons, List.drop_left' (by simp)]
/-- Good pieces are THE pieces of what they stand for. -/
theorem pieces_flat : ∀ ps : List Pc, Good ps → pieces (flat ps) = ps
  | [], _ => rfl
  | p :: ps, h => by
    obtain ⟨h1, h2, h3, h4⟩ := h
    obtain ⟨l, hl⟩ := flat_head (p := p) (ps := ps) h1
    have hr : row (p.1 :: l) = p.2 := by
      rw [← hl]
      have hrep : ∀ j, j < p.2 → (flat (p :: ps))[j]? = some p.1 := fun j hj => by
        rw [flat_cons, List.getElem?_append_left (by simpa using hj)]
        simp [hj]
      have hlen : (flat (p :: ps)).length = p.2 + (flat ps).length := by rw [flat_cons]; simp
      rw [hl] at hrep hlen ⊢
      refine row_of p.1 l p.2 h2 hrep ?_
      cases ps with
      | nil => exact Or.inr (Or.inl (by rw [hlen]; simp [flat]))
      | cons q qs =>
        rcases h3 q rfl with h3 | h3
        · refine Or.inr (Or.inr ⟨q.1, ?_, h3⟩)
          obtain ⟨l2, hl2⟩ := flat_head (p := q) (ps := qs) h4.1
          rw [← hl, flat_cons, List.getElem?_append_right (by simp), hl2]
          simp
        · exact Or.inl h3
    rw [hl, pieces_cons, hr, ← hl, flat_drop, pieces_flat ps h4]
theorem good_append : ∀ {ps : List Pc} {q : Pc}, Good ps → 1 ≤ q.2 → q.2 ≤ 255 → (∀ p, ps.getLast? = some p → q.1 ≠ p.1 ∨ p.2 = 255) → Good (ps ++ [q])
  | [], q, _, h1, h2, _ => ⟨h1, h2, fun _ h => by simp at h, trivial⟩
  | [p], q, h, h1, h2, h3 => ⟨h.1, h.2.1, fun r hr => by
      have : r = q := by simpa using hr.symm
      exact this ▸ h3 p rfl, h1, h2, fun _ h => by simp at h, trivial⟩
  | p :: p2 :: ps, q, h, h1, h2, h3 => ⟨h.1, h.2.1, fun r hr => h.2.2.1 r (by simpa using hr), good_append h.2.2.2 h1 h2 (fun r hr => h3 r (by simpa using hr))⟩
theorem good_left : ∀ {ps qs : List Pc}, Good (ps ++ qs) → Good ps
  | [], _, _ => trivial
  | [p], qs, h => ⟨h.1, h.2.1, fun _ h => by simp at h, trivial⟩
  | p :: p2 :: ps, qs, h => ⟨h.1, h.2.1, fun r hr => h.2.2.1 r (by simpa using hr), good_left (ps := p2 :: ps) h.2.2.2⟩
theorem good_last : ∀ {ps : List Pc} {q : Pc}, Good (ps ++ [q]) → 1 ≤ q.2 ∧ q.2 ≤ 255 ∧ (∀ p, ps.getLast? = some p → q.1 ≠ p.1 ∨ p.2 = 255)
  | [], q, h => ⟨h.1, h.2.1, fun _ h => by simp at h⟩
  | [p], q, h => ⟨h.2.2.2.1, h.2.2.2.2.1, fun r hr => by
      have : p = r := by simpa using hr
      exact this ▸ h.2.2.1 q rfl⟩
  | p :: p2 :: ps, q, h => by
    obtain ⟨a, b, c⟩ := good_last (ps := p2 :: ps) h.2.2.2
    exact ⟨a, b, fun r hr => c r (by simpa using hr)⟩
/-- One byte more: the last piece grows .. -/
theorem pieces_grow (l : List UInt8) (ps : List Pc) (c : UInt8) (n : Nat) (h : pieces l = ps ++ [(c, n)]) (hn : n < 255) : pieces (l ++ [c]) = ps ++ [(c, n + 1)] := by
  have hg := good l
  rw [h] at hg
  obtain ⟨h1, h2, h3⟩ := good_last hg
  have e : l ++ [c] = flat (ps ++ [(c, n + 1)]) := by
    have := flat_pieces l
    rw [h, flat_append] at this
    rw [← this, flat_append]
    simp [flat, List.replicate_succ']
  rw [e]
  refine pieces_flat _ (good_append (good_left hg) (by simp) (by show n + 1 ≤ 255; omega) (fun p hp => ?_))
  exact h3 p hp
/-- .. or there is a new one. -/
theorem pieces_new (l : List UInt8) (b : UInt8) (h : ∀ p, (pieces l).getLast? = some p → b ≠ p.1 ∨ p.2 = 255) : pieces (l ++ [b]) = pieces l ++ [(b, 1)] := by
  have e : l ++ [b] = flat (pieces l ++ [(b, 1)]) := by
    rw [flat_append, flat_pieces]; rfl
  rw [e]
  exact pieces_flat _ (good_append (good l) (by simp) (by simp) h)

/-- A piece as bytes. -/
def packP (p : Pc) : List UInt8 := if p.2 < 4 then List.replicate p.2 p.1 else List.replicate 4 p.1 ++ [UInt8.ofNat (p.2 - 4)]
def pack (ps : List Pc) : List UInt8 := ps.flatMap packP
def encode (l : List UInt8) : List UInt8 := pack (pieces l)
theorem pack_append (ps qs : List Pc) : pack (ps ++ qs) = pack ps ++ pack qs := by simp [pack]
theorem pack_one (p : Pc) : pack [p] = packP p := by simp [pack]
theorem packP_length (p : Pc) : (packP p).length = if p.2 < 4 then p.2 else 5 := by
  unfold packP; split <;> simp
theorem pack_cons (p : Pc) (ps : List Pc) : pack (p :: ps) = packP p ++ pack ps := rfl

/-- UNPACKING, a byte: the last byte, and how many like it stand side by side. -/
def ustep (st : UInt8 × Nat) (c : UInt8) : Option ((UInt8 × Nat) × List UInt8) :=
  if st.2 = 4 then (if 251 < c.toNat then none else some ((st.1, 0), List.replicate c.toNat st.1))
  else some ((c, if c = st.1 then st.2 + 1 else 1), [c])
def urun : UInt8 × Nat → List UInt8 → Option ((UInt8 × Nat) × List UInt8)
  | st, [] => some (st, [])
  | st, c :: l => (ustep st c).bind fun r => (urun r.1 l).map fun q => (q.1, r.2 ++ q.2)
theorem urun_append : ∀ (l m : List UInt8) (st : UInt8 × Nat), urun st (l ++ m) = (urun st l).bind fun r => (urun r.1 m).map fun q => (q.1, r.2 ++ q.2)
  | [], m, st => by simp [urun]
  | c :: l, m, st => by
    simp only [List.cons_append, urun]
    cases h : ustep st c with
    | none => rfl
    | some r =>
      simp only [Option.bind_some, urun_append l m r.1]
      cases urun r.1 l with
      | none => rfl
      | some q =>
        simp only [Option.bind_some, Option.map_some]
        cases urun q.1 m with
        | none => rfl
        | some q2 => simp [List.append_assoc]
theorem urun_snoc (l : List UInt8) (c : UInt8) (st : UInt8 × Nat) : urun st (l ++ [c]) = (urun st l).bind fun r => (ustep r.1 c).map fun q => (q.1, r.2 ++ q.2) := by
  rw [urun_append]
  cases urun st l with
  | none => rfl
  | some r =>
    simp only [Option.bind_some, urun]
    cases ustep r.1 c with
    | none => rfl
    | some q => simp
/-- What comes of it: a text and 0, or no text and what is wrong. -/
def outc : Option ((UInt8 × Nat) × List UInt8) → List UInt8 × Nat
  | none => ([], 25)
  | some (st, o) => if st.2 = 4 then ([], 24) else (o, 0)
def res (st : UInt8 × Nat) (l : List UInt8) : List UInt8 × Nat := outc (urun st l)
def dec (l : List UInt8) : List UInt8 × Nat := res (0, 0) l
def pfx (p : List UInt8) (r : List UInt8 × Nat) : List UInt8 × Nat := if r.2 = 0 then (p ++ r.1, 0) else ([], r.2)
theorem outc_pfx (p : List UInt8) (o : Option ((UInt8 × Nat) × List UInt8)) : outc (o.map fun q => (q.1, p ++ q.2)) = pfx p (outc o) := by
  cases o with
  | none => rfl
  | some q =>
    obtain ⟨st, t⟩ := q
    simp only [outc, Option.map_some]
    split <;> simp [pfx]
theorem res_nil (st : UInt8 × Nat) : res st [] = if st.2 = 4 then ([], 24) else ([], 0) := rfl
theorem res_cons (st : UInt8 × Nat) (c : UInt8) (l : List UInt8) : res st (c :: l) = match ustep st c with | none => ([], 25) | some r => pfx r.2 (res r.1 l) := by
  unfold res
  rw [urun]
  cases ustep st c with
  | none => rfl
  | some r => exact outc_pfx _ _
theorem pfx_pfx (p q : List UInt8) (r : List UInt8 × Nat) : pfx p (pfx q r) = pfx (p ++ q) r := by
  unfold pfx
  split <;> simp_all
theorem pfx_nil (r : List UInt8 × Nat) (h : r.2 ≠ 0 → r.1 = []) : pfx [] r = r := by
  unfold pfx
  split
  · rename_i e; cases r; simp_all
  · cases r; simp_all
/-- With nothing side by side the last byte is nothing. -/
theorem res_zero (a b : UInt8) (l : List UInt8) : res (a, 0) l = res (b, 0) l := by
  cases l with
  | nil => rfl
  | cons c l =>
    rw [res_cons, res_cons]
    have e : ∀ x : UInt8, ustep (x, 0) c = some ((c, 1), [c]) := fun x => by unfold ustep; simp
    rw [e, e]
theorem step_like {c : UInt8} {k : Nat} (hk : k < 4) : ustep (c, k) c = some ((c, k + 1), [c]) := by
  unfold ustep; simp; omega
theorem step_unlike {c d : UInt8} {k : Nat} (hk : k < 4) (h : d ≠ c) : ustep (c, k) d = some ((d, 1), [d]) := by
  unfold ustep
  have : ¬ k = 4 := by omega
  simp [this, h]
theorem res_like {c : UInt8} {k : Nat} (l : List UInt8) (hk : k < 4) : res (c, k) (c :: l) = pfx [c] (res (c, k + 1) l) := by
  rw [res_cons, step_like hk]
theorem res_unlike {c d : UInt8} {k : Nat} (l : List UInt8) (hk : k < 4) (h : d ≠ c) : res (c, k) (d :: l) = pfx [d] (res (d, 1) l) := by
  rw [res_cons, step_unlike hk h]
theorem dec_cons (c : UInt8) (l : List UInt8) : dec (c :: l) = pfx [c] (res (c, 1) l) := by
  unfold dec
  rw [res_zero 0 c, res_like l (by omega)]
/-- Does a text begin with four like bytes? -/
def four : List UInt8 → Bool
  | a :: b :: c :: d :: _ => a == b && b == c && c == d
  | _ => false
theorem res_end {c : UInt8} {k m : Nat} (hk : k < 4) (hm : m < 4) : res (c, k) [] = res (c, m) [] := by
  rw [res_nil, res_nil, if_neg (by simpa using Nat.ne_of_lt hk), if_neg (by simpa using Nat.ne_of_lt hm)]
/-- A byte that stands for itself alone. -/
theorem dec_one (c : UInt8) (l : List UInt8) (h : four (c :: l) = false) : dec (c :: l) = pfx [c] (dec l) := by
  rw [dec_cons]
  congr 1
  show res (c, 1) l = res (0, 0) l
  rw [res_zero 0 c]
  match l with
  | [] => exact res_end (by omega) (by omega)
  | d :: l =>
    by_cases hd : d = c
    · subst hd
      rw [res_like l (by omega), res_like l (by omega)]
      congr 1
      match l with
      | [] => exact res_end (by omega) (by omega)
      | e :: l =>
        by_cases he : e = d
        · subst he
          rw [res_like l (by omega), res_like l (by omega)]
          congr 1
          match l with
          | [] => exact res_end (by omega) (by omega)
          | f :: l =>
            by_cases hf : f = e
            · subst hf
              simp [four] at h
            · rw [res_unlike l (by omega) hf, res_unlike l (by omega) hf]
        · rw [res_unlike l (by omega) he, res_unlike l (by omega) he]
    · rw [res_unlike l (by omega) hd, res_unlike l (by omega) hd]
/-- Four like bytes, and what is behind them. -/
theorem dec_four (c : UInt8) (l : List UInt8) : dec (c :: c :: c :: c :: l) = pfx [c, c, c, c] (res (c, 4) l) := by
  rw [dec_cons, res_like _ (by omega), res_like _ (by omega), res_like _ (by omega), pfx_pfx, pfx_pfx, pfx_pfx]
  rfl
theorem dec_four_end (c : UInt8) : dec [c, c, c, c] = ([], 24) := by
  rw [dec_four]; rfl
theorem dec_four_bad (c n : UInt8) (l : List UInt8) (h : 251 < n.toNat) : dec (c :: c :: c :: c :: n :: l) = ([], 25) := by
  rw [dec_four, res_cons]
  have : ustep (c, 4) n = none := by unfold ustep; simp [h]
  rw [this]; rfl
theorem dec_four_count (c n : UInt8) (l : List UInt8) (h : ¬ 251 < n.toNat) : dec (c :: c :: c :: c :: n :: l) = pfx (List.replicate (4 + n.toNat) c) (dec l) := by
  rw [dec_four, res_cons]
  have : ustep (c, 4) n = some ((c, 0), List.replicate n.toNat c) := by unfold ustep; simp [h]
  rw [this]
  simp only [pfx_pfx]
  show pfx _ (res (c, 0) l) = pfx _ (res (0, 0) l)
  rw [res_zero c 0, show [c, c, c, c] = List.replicate 4 c from rfl, List.replicate_append_replicate]

/-! ### There and back -/
theorem urun_like (c : UInt8) : ∀ (n k : Nat) (l : List UInt8), k + n ≤ 4 → urun (c, k) (List.replicate n c ++ l) = (urun (c, k + n) l).map fun q => (q.1, List.replicate n c ++ q.2)
  | 0, k, l, _ => by simp
  | n + 1, k, l, h => by
    rw [List.replicate_succ, List.cons_append, urun, step_like (by omega), Option.bind_some, urun_like c n (k + 1) l (by omega)]
    rw [show k + 1 + n = k + (n + 1) from by omega]
    cases urun (c, k + (n + 1)) l <;> simp
theorem urun_row (a c : UInt8) (k n : Nat) (l : List UInt8) (hk : k < 4) (h : k = 0 ∨ c ≠ a) (h1 : 1 ≤ n) (hn : n ≤ 4) :
    urun (a, k) (List.replicate n c ++ l) = (urun (c, n) l).map fun q => (q.1, List.replicate n c ++ q.2) := by
  obtain ⟨m, rfl⟩ : ∃ m, n = m + 1 := ⟨n - 1, by omega⟩
  rw [List.replicate_succ, List.cons_append, urun]
  have : ustep (a, k) c = some ((c, 1), [c]) := by
    rcases h with rfl | h
    · unfold ustep; simp
    · exact step_unlike hk h
  rw [this, Option.bind_some]
  simp only
  rw [urun_like c m 1 l (by omega), show 1 + m = m + 1 from by omega]
  cases urun (c, m + 1) l <;> simp
theorem urun_packP (a : UInt8) (k : Nat) (p : Pc) (l : List UInt8) (hk : k < 4) (h : k = 0 ∨ p.1 ≠ a) (h1 : 1 ≤ p.2) (hn : p.2 ≤ 255) :
    ∃ st : UInt8 × Nat, urun (a, k) (packP p ++ l) = (urun st l).map (fun q => (q.1, List.replicate p.2 p.1 ++ q.2)) ∧ st.2 < 4 ∧ st.1 = p.1 ∧ (p.2 = 255 → st.2 = 0) := by
  unfold packP
  split
  · rename_i hlt
    exact ⟨(p.1, p.2), urun_row a p.1 k p.2 l hk h h1 (by omega), hlt, rfl, fun e => by omega⟩
  · rename_i hge
    refine ⟨(p.1, 0), ?_, Nat.zero_lt_succ 3, rfl, fun _ => rfl⟩
    rw [List.append_assoc, urun_row a p.1 k 4 _ hk h (by omega) (by omega)]
    have hc : (UInt8.ofNat (p.2 - 4)).toNat = p.2 - 4 := by rw [UInt8.toNat_ofNat']; omega
    have hs : ustep (p.1, 4) (UInt8.ofNat (p.2 - 4)) = some ((p.1, 0), List.replicate (p.2 - 4) p.1) := by
      unfold ustep
      rw [if_pos rfl, hc, if_neg (by omega)]
    rw [List.singleton_append, urun, hs, Option.bind_some]
    simp only
    cases urun (p.1, 0) l with
    | none => rfl
    | some q =>
      simp only [Option.map_some, Option.some.injEq, Prod.mk.injEq, true_and]
      rw [← List.append_assoc, List.replicate_append_replicate]
      rw [show 4 + (p.2 - 4) = p.2 from by omega]
theorem urun_pack : ∀ (ps : List Pc) (a : UInt8) (k : Nat), Good ps → k < 4 → (k = 0 ∨ ∀ p, ps.head? = some p → p.1 ≠ a) → ∃ st : UInt8 × Nat, urun (a, k) (pack ps) = some (st, flat ps) ∧ st.2 < 4
  | [], a, k, _, hk, _ => ⟨(a, k), rfl, hk⟩
  | p :: ps, a, k, hg, hk, h => by
    obtain ⟨h1, h2, h3, h4⟩ := hg
    obtain ⟨st, e, hs, hs1, hs2⟩ := urun_packP a k p (pack ps) hk (by rcases h with h | h; exact Or.inl h; exact Or.inr (h p rfl)) h1 h2
    obtain ⟨st2, e2, hs3⟩ := urun_pack ps st.1 st.2 h4 hs (by
      by_cases h255 : p.2 = 255
      · exact Or.inl (hs2 h255)
      · refine Or.inr fun q hq => ?_
        rw [hs1]
        rcases h3 q hq with h | h
        · exact h
        · exact absurd h h255)
    refine ⟨st2, ?_, hs3⟩
    rw [pack_cons, e, e2, flat_cons]
    rfl
theorem urun_encode (l : List UInt8) : ∃ st : UInt8 × Nat, urun (0, 0) (encode l) = some (st, l) ∧ st.2 < 4 := by
  obtain ⟨st, h, hs⟩ := urun_pack (pieces l) 0 0 (good l) (by omega) (Or.inl rfl)
  rw [flat_pieces] at h
  exact ⟨st, h, hs⟩
/-- DECODE OF ENCODE IS THE TEXT. -/
theorem dec_encode (l : List UInt8) : dec (encode l) = (l, 0) := by
  obtain ⟨st, h, hs⟩ := urun_encode l
  unfold dec res
  rw [h]
  simp only [outc]
  rw [if_neg (by omega)]
/-- AT MOST FIVE BYTES FOR FOUR. -/
theorem pack_small : ∀ ps : List Pc, Good ps → 4 * (pack ps).length ≤ 5 * (flat ps).length
  | [], _ => by simp [pack, flat]
  | p :: ps, h => by
    have ih := pack_small ps h.2.2.2
    have hl := packP_length p
    rw [pack_cons, flat_cons, List.length_append, List.length_append, List.length_replicate, hl]
    split <;> omega
theorem encode_small (l : List UInt8) : 4 * (encode l).length ≤ 5 * l.length := by
  have := pack_small (pieces l) (good l)
  rw [flat_pieces] at this
  exact this
theorem outc_err (o : Option ((UInt8 × Nat) × List UInt8)) : (outc o).2 ≠ 0 → (outc o).1 = [] := by
  cases o with
  | none => intro _; rfl
  | some q => obtain ⟨st, t⟩ := q; simp only [outc]; split <;> simp
theorem dec_err (l : List UInt8) : (dec l).2 ≠ 0 → (dec l).1 = [] := outc_err _
end RleM
end Go.Proofs.YtnachbjhhpnadaaGreatDoor

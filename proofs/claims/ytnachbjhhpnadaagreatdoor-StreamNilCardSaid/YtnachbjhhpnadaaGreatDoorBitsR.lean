/-
  THE WALKS OF LAYER 1's CODE (package bits): the writer's other ways, and the reader.
-/
import Derived.Test.YtnachbjhhpnadaaGreatDoorBits
import Derived.BigQuiet
namespace Go.Proofs.YtnachbjhhpnadaaGreatDoor
open Go.RowKit BitM
set_option linter.unusedVariables false

/-! ### The writer: what is refused; Pad; nil -/
set_option maxHeartbeats 400000 in
theorem put_bad (b : Nat) (X : Nat) (n : Int) (w : World) (hX : X < 4294967296) (hn1 : -9223372036854775808 ≤ n) (hn2 : n ≤ 9223372036854775807) (h : n < 0 ∨ 32 < n ∨ ∃ m : Nat, n = (m : Int) ∧ m ≤ 32 ∧ 2 ^ m ≤ X) :
    Calls Tryz.prog 47 #[.pointer (some ⟨b, 0, none⟩), .int .u32 (X : Int), .int .i64 n] w fun e w' => e = .returned (.int .i64 1) ∧ w = w' := by
  rcases h with h | h | ⟨m, rfl, hm, hx⟩
  · go_enter Tryz.func47, Tryz.ntmps47
    go_wp2_with fail
    refine (isLength_no _ _ (Or.inl h)).mono ?_
    rintro e w' ⟨rfl, rfl⟩
    go_wp2_with fail
    go_ret
    exact ⟨rfl, rfl⟩
  · go_enter Tryz.func47, Tryz.ntmps47
    go_wp2_with fail
    refine (isLength_no _ _ (Or.inr h)).mono ?_
    rintro e w' ⟨rfl, rfl⟩
    go_wp2_with fail
    go_ret
    exact ⟨rfl, rfl⟩
  · have hz : ((X : Int) / 2 ^ m != 0) = true := by
      have e : (X : Int) / 2 ^ m = ((X / 2 ^ m : Nat) : Int) := by simp
      have : 0 < X / 2 ^ m := Nat.div_pos hx (Nat.two_pow_pos m)
      rw [e, bne_iff_ne]; omega
    go_enter Tryz.func47, Tryz.ntmps47
    go_wp2_with fail
    refine (isLength_yes _ _ (by omega) (by omega)).mono ?_
    rintro e w' ⟨rfl, rfl⟩
    go_wp2_with fail
    go_ret
    exact ⟨rfl, rfl⟩
/-- Bits 0 up to a whole byte. -/
def padding (q : List Bool) : List Bool := field 0 ((8 - q.length % 8) % 8)
set_option maxHeartbeats 400000 in
theorem wpad_any (b : Nat) (v : Value) (q : List Bool) (tk : Nat) (w : World) (h : IsWriter w b v q tk) (hq : q.length ≤ 1099511627776) :
    Calls Tryz.prog 15 #[.pointer (some ⟨b, 0, none⟩)] w fun e w' =>
      e = .returned (.tuple #[]) ∧ ∃ v1, IsWriter w' b v1 (q ++ padding q) tk ∧ Touch (foot b v) w w' ∧ (∀ k, v1.ownBlock = some k → v.ownBlock = some k ∨ w.heap.size ≤ k) := by
  have H := Lib.hid h
  clear h
  go_enter Tryz.func15, Tryz.ntmps15
  go_wp2_with fail
  refine (wlen_any b v q tk w H.out).mono ?_
  rintro e w' ⟨rfl, rfl⟩
  go_wp2_with fail
  refine (upToByte_any _ q.length rfl _ (by omega)).mono ?_
  rintro e w' ⟨rfl, rfl⟩
  go_wp2_with fail
  refine (put_any b v q tk 0 ((8 - q.length % 8) % 8) w H.out (by omega) (Nat.two_pow_pos _) hq).mono ?_
  rintro e w' ⟨rfl, hp⟩
  have HP := Lib.hid hp
  clear hp
  go_wp2_with fail
  go_end0
  exact ⟨rfl, HP.out⟩
set_option maxHeartbeats 400000 in
theorem put_nil (x y : Value) (w : World) : Calls Tryz.prog 47 #[.pointer none, x, y] w fun e w' => e = .returned (.int .i64 7) ∧ w = w' := by
  go_enter Tryz.func47, Tryz.ntmps47
  go_wp2_with fail
  go_ret
  exact ⟨rfl, rfl⟩
set_option maxHeartbeats 400000 in
theorem wlen_nil (w : World) : Calls Tryz.prog 14 #[.pointer none] w fun e w' => e = .returned (.int .i64 0) ∧ w = w' := by
  go_enter Tryz.func14, Tryz.ntmps14
  go_wp2_with fail
  go_ret
  exact ⟨rfl, rfl⟩
set_option maxHeartbeats 400000 in
theorem wheld_nil (w : World) : Calls Tryz.prog 93 #[.pointer none] w fun e w' => e = .returned (.int .i64 0) ∧ w = w' := by
  go_enter Tryz.func93, Tryz.ntmps93
  go_wp2_with fail
  go_ret
  exact ⟨rfl, rfl⟩
set_option maxHeartbeats 400000 in
theorem wtake_nil (w : World) : Calls Tryz.prog 16 #[.pointer none] w fun e w' => e = .returned (.string ByteArray.empty) ∧ w = w' := by
  go_enter Tryz.func16, Tryz.ntmps16
  go_wp2_with fail
  go_ret
  exact ⟨rfl, rfl⟩
set_option maxHeartbeats 400000 in
theorem wpad_nil (w : World) : Calls Tryz.prog 15 #[.pointer none] w fun e w' => e = .returned (.tuple #[]) ∧ w = w' := by
  go_enter Tryz.func15, Tryz.ntmps15
  go_wp2_with fail
  refine (wlen_nil _).mono ?_
  rintro e w' ⟨rfl, rfl⟩
  go_wp2_with fail
  refine (upToByte_any _ 0 rfl _ (by omega)).mono ?_
  rintro e w' ⟨rfl, rfl⟩
  go_wp2_with fail
  refine (put_nil _ _ _).mono ?_
  rintro e w' ⟨rfl, rfl⟩
  go_wp2_with fail
  go_end0
  exact ⟨rfl, rfl⟩

/-! ### The reader -/
/-- v is a row of bytes l, with room behind it that may be written. -/
def IsRowB (w : World) (v : Value) (l : List UInt8) : Prop :=
  (v = .slice none 0 0 ∧ l = []) ∨ ∃ g off cap, v = .slice (some ⟨g, off, none⟩) l.length cap ∧ g < w.heap.size ∧ l.length ≤ cap ∧ cap ≤ maxLen ∧
    (∀ (i : Nat) (x : UInt8), l[i]? = some x → w.cell? ⟨g, off + i, none⟩ = some (u8v x)) ∧ (∀ i, i < cap → ∃ n, w.cell? ⟨g, off + i, none⟩ = some (.int .u8 n)) ∧ (∀ i, i < cap → w.frozen? ⟨g, off + i, none⟩ = false)
/-- Block b is a reader: the bytes l are kept, dr ahead of them were forgotten, p is the place. -/
def IsReader (w : World) (b : Nat) (v : Value) (l : List UInt8) (dr sp p : Nat) : Prop :=
  w.heap[b]? = some (.cells #[v, .int .i64 (dr : Int), .int .i64 (sp : Int), .int .i64 (p : Int)] 91 (0, 0)) ∧ IsRowB w v l ∧ (∀ k, v.ownBlock = some k → b ≠ k) ∧ 8 * dr ≤ p ∧ p ≤ 8 * (dr + l.length)
theorem IsReader.cells {w : World} {b : Nat} {v : Value} {l : List UInt8} {dr sp p : Nat} (h : IsReader w b v l dr sp p) :
    w.cell? ⟨b, 0, none⟩ = some v ∧ w.cell? ⟨b, 1, none⟩ = some (.int .i64 (dr : Int)) ∧ w.cell? ⟨b, 2, none⟩ = some (.int .i64 (sp : Int)) ∧ w.cell? ⟨b, 3, none⟩ = some (.int .i64 (p : Int)) ∧
    w.frozen? ⟨b, 0, none⟩ = false ∧ w.frozen? ⟨b, 1, none⟩ = false ∧ w.frozen? ⟨b, 2, none⟩ = false ∧ w.frozen? ⟨b, 3, none⟩ = false := by
  have h := h.1
  refine ⟨?_, ?_, ?_, ?_, frozen_of_row _ _ _ _ _ h, frozen_of_row _ _ _ _ _ h, frozen_of_row _ _ _ _ _ h, frozen_of_row _ _ _ _ _ h⟩ <;> (rw [cell_of_row _ _ _ _ _ _ h]; rfl)
theorem IsRowB.slice {w : World} {v : Value} {l : List UInt8} (h : IsRowB w v l) : ∃ a cap, v = .slice a l.length cap ∧ l.length ≤ cap ∧ cap ≤ maxLen := by
  rcases h with ⟨rfl, rfl⟩ | ⟨g, off, cap, rfl, _, h1, h2, _⟩
  · exact ⟨none, 0, rfl, Nat.le_refl _, by decide⟩
  · exact ⟨_, cap, rfl, h1, h2⟩
theorem IsRowB.cell {w : World} {v : Value} {l : List UInt8} (h : IsRowB w v l) {i : Nat} {x : UInt8} (hx : l[i]? = some x) : ∃ g off cap, v = .slice (some ⟨g, off, none⟩) l.length cap ∧ w.cell? ⟨g, off + i, none⟩ = some (.int .u8 (x.toNat : Int)) := by
  rcases h with ⟨rfl, rfl⟩ | ⟨g, off, cap, rfl, hg, h1, h2, hc, _⟩
  · simp at hx
  · exact ⟨g, off, cap, rfl, hc i x hx⟩
theorem IsRowB.other {w w' : World} {v : Value} {l : List UInt8} (h : IsRowB w v l) (he : ∀ k, v.ownBlock = some k → w'.heap[k]? = w.heap[k]?) : IsRowB w' v l := by
  rcases h with h | ⟨g, off, cap, rfl, hg, h1, h2, hc, ha, hf⟩
  · exact Or.inl h
  · have e := he g rfl
    refine Or.inr ⟨g, off, cap, rfl, (Array.getElem?_eq_some_iff.1 (e.trans (Array.getElem?_eq_getElem hg))).1, h1, h2, fun i x hx => ?_, fun i hi => ?_, fun i hi => ?_⟩
    · rw [World.cell?_of_block (w := w) (a := ⟨g, off + i, none⟩) e]; exact hc i x hx
    · rw [World.cell?_of_block (w := w) (a := ⟨g, off + i, none⟩) e]; exact ha i hi
    · rw [World.frozen?_of_block (w := w) (a := ⟨g, off + i, none⟩) e]; exact hf i hi
theorem IsRowB.lt {w : World} {v : Value} {l : List UInt8} (h : IsRowB w v l) : ∀ k, v.ownBlock = some k → k < w.heap.size := by
  intro k hk
  rcases h with ⟨rfl, _⟩ | ⟨g, off, cap, rfl, hg, r⟩
  · simp [Value.ownBlock] at hk
  · simp [Value.ownBlock] at hk
    subst hk
    exact hg
theorem IsReader.lt {w : World} {b : Nat} {v : Value} {l : List UInt8} {dr sp p : Nat} (h : IsReader w b v l dr sp p) : ∀ k, foot b v k → k < w.heap.size := by
  intro k hk
  rcases hk with rfl | hk
  · exact (Array.getElem?_eq_some_iff.1 h.1).1
  · exact h.2.1.lt k hk
theorem IsReader.other {w w' : World} {b : Nat} {v : Value} {l : List UInt8} {dr sp p : Nat} (h : IsReader w b v l dr sp p) {S : Nat → Prop} (ht : Touch S w w') (hS : ∀ k, foot b v k → ¬ S k) : IsReader w' b v l dr sp p :=
  ⟨(ht.block b (h.lt b (Or.inl rfl)) (hS b (Or.inl rfl))).trans h.1, h.2.1.other (fun k hk => ht.block k (h.lt k (Or.inr hk)) (hS k (Or.inr hk))), h.2.2⟩
/-- The place goes on. -/
theorem IsReader.at_ {w : World} {b : Nat} {v : Value} {l : List UInt8} {dr sp p : Nat} (h : IsReader w b v l dr sp p) (q : Nat) (h1 : 8 * dr ≤ q) (h2 : q ≤ 8 * (dr + l.length)) (Q : Int) (hQ : Q = (q : Int)) :
    IsReader (w.setCell ⟨b, 3, none⟩ (.int .i64 Q)) b v l dr sp q ∧ Touch (· = b) w (w.setCell ⟨b, 3, none⟩ (.int .i64 Q)) := by
  subst hQ
  exact ⟨⟨heap_setCell_same _ _ 3 _ _ _ h.1, h.2.1.other (fun k hk => heap_setCell_other _ _ _ _ (fun e => h.2.2.1 k hk e.symm)), h.2.2.1, h1, h2⟩, Touch.setCell (S := (· = b)) (Touch.refl _ _) (Or.inl rfl) _⟩
set_option maxHeartbeats 400000 in
theorem rat_any (b : Nat) (v : Value) (l : List UInt8) (dr sp p : Nat) (w : World) (h : IsReader w b v l dr sp p) : Calls Tryz.prog 26 #[.pointer (some ⟨b, 0, none⟩)] w fun e w' => e = .returned (.int .i64 (p : Int)) ∧ w = w' := by
  obtain ⟨c0, c1, c2, c3, f0, f1, f2, f3⟩ := h.cells
  clear h
  go_enter Tryz.func26, Tryz.ntmps26
  go_wp2
  go_ret
  exact ⟨rfl, rfl⟩
set_option maxHeartbeats 400000 in
theorem rend_any (b : Nat) (v : Value) (l : List UInt8) (dr sp p E : Nat) (w : World) (h : IsReader w b v l dr sp p) (hs : dr + l.length ≤ 1099511627776) (hE : 8 * (dr + l.length) = E) :
    Calls Tryz.prog 62 #[.pointer (some ⟨b, 0, none⟩)] w fun e w' => e = .returned (.int .i64 (E : Int)) ∧ ∃ n, w' = w.drewN n := by
  obtain ⟨c0, c1, c2, c3, f0, f1, f2, f3⟩ := h.cells
  obtain ⟨a, cap, rfl, _, _⟩ := h.2.1.slice
  clear h
  have hb1 : (dr : Int) ≤ 1099511627776 := by omega
  have hb2 : (l.length : Int) ≤ 1099511627776 := by omega
  have HE := Lib.hid (show (8 : Int) * ((dr : Int) + (l.length : Int)) = (E : Int) by omega)
  clear hE
  go_enter Tryz.func62, Tryz.ntmps62
  go_wp2_with fail
  go_quiet (fail)
  go_wp2_with fail
  go_ret
  rw [HE.out]
  exact ⟨rfl, _, rfl⟩
theorem IsReader.drewN {w : World} {b : Nat} {v : Value} {l : List UInt8} {dr sp p : Nat} (h : IsReader w b v l dr sp p) (n : Nat) : IsReader (w.drewN n) b v l dr sp p :=
  h.other (touch_drewN (fun _ => False) w n) (fun _ _ hf => hf)
set_option maxHeartbeats 400000 in
theorem rleft_any (b : Nat) (v : Value) (l : List UInt8) (dr sp p L : Nat) (w : World) (h : IsReader w b v l dr sp p) (hs : dr + l.length ≤ 1099511627776) (hL : 8 * (dr + l.length) - p = L) :
    Calls Tryz.prog 186 #[.pointer (some ⟨b, 0, none⟩)] w fun e w' => e = .returned (.int .i64 (L : Int)) ∧ ∃ n, w' = w.drewN n := by
  obtain ⟨c0, c1, c2, c3, f0, f1, f2, f3⟩ := h.cells
  have h1 := h.2.2.2.1
  have h2 := h.2.2.2.2
  have H := Lib.hid h
  obtain ⟨E, hE⟩ : ∃ E, 8 * (dr + l.length) = E := ⟨_, rfl⟩
  have hb1 : (E : Int) ≤ 8796093022208 := by omega
  have hb2 : (p : Int) ≤ (E : Int) := by omega
  have hb3 : (0 : Int) ≤ p := by omega
  have HE := Lib.hid (show (E : Int) - (p : Int) = (L : Int) by omega)
  have HEE := Lib.hid hE
  clear h hE hL h1 h2
  go_enter Tryz.func186, Tryz.ntmps186
  go_wp2_with fail
  go_quiet ((go_at_call 62; exact Calls.quiet_of (rend_any b v l dr sp p E _ (H.out.drewN _) hs HEE.out)))
  go_wp2_with fail
  go_ret
  rw [HE.out]
  exact ⟨rfl, _, rfl⟩
theorem or8_code (V x : Nat) (hV : V < 2 ^ 32) (hx : x < 256) : bits BinOp.or IntKind.u64 (IntKind.u64.wrap ((V : Int) * 256)) (x : Int) = ((V * 256 + x : Nat) : Int) := by
  have e : IntKind.u64.wrap ((V : Int) * 256) = ((V * 256 : Nat) : Int) := by
    simp only [IntKind.wrap, IntKind.bits, IntKind.signed]
    simp
    omega
  rw [e, u64_or_nat _ _ (by omega) (by omega), nat_join 8 _ _ (by omega) (by omega)]
theorem get_code (V u n : Nat) (hV : V < 2 ^ 40) (hn : n ≤ 32) : bits BinOp.and IntKind.u64 ((V : Int) / 2 ^ u) (IntKind.u64.wrap (IntKind.u64.wrap (2 ^ n) - 1)) % 4294967296 = ((V / 2 ^ u % 2 ^ n : Nat) : Int) := by
  have h32 : 2 ^ n ≤ 2 ^ 32 := Nat.pow_le_pow_right (by omega) hn
  have h1 : 1 ≤ 2 ^ n := Nat.two_pow_pos n
  have e0 : (V : Int) / 2 ^ u = ((V / 2 ^ u : Nat) : Int) := by simp
  have hVu : V / 2 ^ u ≤ V := Nat.div_le_self _ _
  have e1 : (2 : Int) ^ n = ((2 ^ n : Nat) : Int) := by simp
  have e2 : IntKind.u64.wrap (IntKind.u64.wrap ((2 ^ n : Nat) : Int) - 1) = ((2 ^ n - 1 : Nat) : Int) := by
    generalize 2 ^ n = z at *
    simp only [IntKind.wrap, IntKind.bits, IntKind.signed]
    simp
    omega
  rw [e0, e1, e2, u64_and_nat _ _ (by omega) (by omega), Nat.and_two_pow_sub_one_eq_mod]
  have hm : V / 2 ^ u % 2 ^ n < 2 ^ n := Nat.mod_lt _ (by omega)
  omega
theorem sub_lt5 (sub : List UInt8) (h : sub.length ≤ 5) : num (bitsOf sub) < 2 ^ 40 := by
  refine Nat.lt_of_lt_of_le (num_lt _) (Nat.pow_le_pow_right (by omega) ?_)
  rw [bitsOf_length]; omega
theorem sub_lt (sub : List UInt8) (k : Nat) (hk : k ≤ 4) : num (bitsOf (sub.take k)) < 2 ^ 32 := by
  refine Nat.lt_of_lt_of_le (num_lt _) (Nat.pow_le_pow_right (by omega) ?_)
  rw [bitsOf_length, List.length_take]; omega
set_option maxHeartbeats 400000 in
theorem field_any (b : Nat) (v : Value) (l : List UInt8) (dr sp p n : Nat) (w : World) (h : IsReader w b v l dr sp p) (hs : dr + l.length ≤ 1099511627776) (hn : n ≤ 32) (hp : p + n ≤ 8 * (dr + l.length)) :
    Calls Tryz.prog 233 #[.pointer (some ⟨b, 0, none⟩), .int .i64 (n : Int)] w fun e w' => e = .returned (.int .u32 (num (((bitsOf l).drop (p - 8 * dr)).take n) : Int)) ∧ ∃ n, w' = w.drewN n := by
  obtain ⟨c0, c1, c2, c3, f0, f1, f2, f3⟩ := h.cells
  have h1 := h.2.2.2.1
  have HR := Lib.hid h.2.1
  obtain ⟨a, cap, hv, hcap, hcm⟩ := h.2.1.slice
  unfold maxLen at hcm
  obtain ⟨fr, hfr⟩ : ∃ fr, p - 8 * dr = fr := ⟨_, rfl⟩
  rw [hfr]
  have hf0 : (p : Int) - 8 * (dr : Int) = (fr : Int) := by omega
  have hb1 : (dr : Int) ≤ 1099511627776 := by omega
  have hb2 : (p : Int) ≤ 17592186044416 := by omega
  have hft : fr + n ≤ 8 * l.length := by omega
  clear h h1 hp hfr
  subst hv
  have hsub : ((l.drop (fr / 8)).take ((fr + n + 7) / 8 - fr / 8)).length = (fr + n + 7) / 8 - fr / 8 := by simp; omega
  have HM := Lib.hid (get_math l fr n hft)
  generalize hs0 : (l.drop (fr / 8)).take ((fr + n + 7) / 8 - fr / 8) = sub at *
  have HS0 := Lib.hid hs0
  have hcnt : (fr + n + 7) / 8 - fr / 8 ≤ 5 := by omega
  have HSUB := Lib.hid hsub
  clear hs0 hsub
  by_cases hcf : cap = fr / 8
  · have hc0 : (fr + n + 7) / 8 - fr / 8 = 0 := by omega
    go_enter Tryz.func233, Tryz.ntmps233
    go_wp2_with fail
    go_quiet (fail)
    go_wp2_with fail
    go_loop [7, 9, 34] (fun v _ i => ∃ k : Nat, k ≤ (fr + n + 7) / 8 - fr / 8 ∧ i = .int .i64 k ∧ v = .int .u64 (num (bitsOf (sub.take k)) : Int)) (fun _ _ i => ((fr + n + 7) / 8 - fr / 8) - (intOf i).toNat)
    case atStart => exact ⟨0, by omega, rfl, rfl⟩
    case round =>
      obtain ⟨k, hk, rfl, rfl⟩ := hrel
      by_cases hlt : k < (fr + n + 7) / 8 - fr / 8
      · exfalso; omega
      · obtain rfl : k = (fr + n + 7) / 8 - fr / 8 := by omega
        go_wp2_with fail
        refine (upToByte_any _ (fr + n) (by omega) _ (by omega)).mono ?_
        rintro e w' ⟨rfl, rfl⟩
        go_wp2_with fail
        go_ret
        have hs0 : sub = [] := List.eq_nil_of_length_eq_zero (HSUB.out.trans hc0)
        have hm := HM.out
        rw [hs0] at hm
        rw [get_code _ _ _ (sub_lt5 [] (by decide)) hn, hm]
        exact ⟨rfl, _, rfl⟩
  · go_enter Tryz.func233, Tryz.ntmps233
    go_wp2_with fail
    go_quiet (fail)
    go_wp2_with fail
    go_loop [7, 9, 34] (fun v _ i => ∃ k : Nat, k ≤ (fr + n + 7) / 8 - fr / 8 ∧ i = .int .i64 k ∧ v = .int .u64 (num (bitsOf (sub.take k)) : Int)) (fun _ _ i => ((fr + n + 7) / 8 - fr / 8) - (intOf i).toNat)
    case atStart => exact ⟨0, by omega, rfl, rfl⟩
    case round =>
      obtain ⟨k, hk, rfl, rfl⟩ := hrel
      by_cases hlt : k < (fr + n + 7) / 8 - fr / 8
      · have hx : ∃ x, sub[k]? = some x := ⟨sub[k]'(by have := HSUB.out; omega), List.getElem?_eq_getElem _⟩
        obtain ⟨x, hx⟩ := hx
        have hx2 : l[fr / 8 + k]? = some x := by
          have := hx
          rw [← HS0.out, List.getElem?_take, if_pos hlt, List.getElem?_drop] at this
          exact this
        obtain ⟨g, off, cap2, hv2, hc2⟩ := HR.out.cell hx2
        simp only [Value.slice.injEq] at hv2
        obtain ⟨rfl, _, _⟩ := hv2
        rw [← Nat.add_assoc] at hc2
        have HT : Hid (num (bitsOf (sub.take (k + 1))) = num (bitsOf (sub.take k)) * 256 + x.toNat) := by
          obtain ⟨hk1, hk2⟩ := List.getElem?_eq_some_iff.1 hx
          rw [List.take_succ_eq_append_getElem hk1, num_bitsOf_snoc, hk2]
          rfl
        have hxl := x.toNat_lt
        clear hx hx2
        go_wp2_with fail
        go_round
        case rel =>
          refine ⟨k + 1, by omega, by go_num, ?_⟩
          rw [or8_code _ _ (sub_lt sub k (by omega)) hxl, HT.out]
        case measure => simp [intOf]; omega
      · obtain rfl : k = (fr + n + 7) / 8 - fr / 8 := by omega
        go_wp2_with fail
        refine (upToByte_any _ (fr + n) (by omega) _ (by omega)).mono ?_
        rintro e w' ⟨rfl, rfl⟩
        go_wp2_with fail
        go_ret
        have hl5 : sub.length ≤ 5 := by rw [HSUB.out]; exact hcnt
        rw [List.take_of_length_le (Nat.le_of_eq HSUB.out), get_code _ _ _ (sub_lt5 sub hl5) hn, HM.out]
        exact ⟨rfl, _, rfl⟩

set_option maxHeartbeats 400000 in
theorem get_any (b : Nat) (v : Value) (l : List UInt8) (dr sp p n : Nat) (w : World) (h : IsReader w b v l dr sp p) (hs : dr + l.length ≤ 1099511627776) (hn : n ≤ 32) (hp : p + n ≤ 8 * (dr + l.length)) :
    Calls Tryz.prog 187 #[.pointer (some ⟨b, 0, none⟩), .int .i64 (n : Int)] w fun e w' =>
      e = .returned (.tuple #[.int .u32 (num (((bitsOf l).drop (p - 8 * dr)).take n) : Int), .int .i64 0]) ∧ IsReader w' b v l dr sp (p + n) ∧ Touch (· = b) w w' := by
  obtain ⟨c0, c1, c2, c3, f0, f1, f2, f3⟩ := h.cells
  obtain ⟨L, hL⟩ : ∃ L, 8 * (dr + l.length) - p = L := ⟨_, rfl⟩
  have hn1 : (n : Int) ≤ L := by omega
  have hpp : (p : Int) ≤ 8796093022208 := by omega
  have h8 : 8 * dr ≤ p := h.2.2.2.1
  have H := Lib.hid h
  have HL := Lib.hid hL
  clear h hL
  go_enter Tryz.func187, Tryz.ntmps187
  go_wp2_with fail
  refine (isLength_yes _ _ (by omega) (by omega)).mono ?_
  rintro e w' ⟨rfl, rfl⟩
  go_wp2_with fail
  refine (rleft_any b v l dr sp p L w H.out hs HL.out).mono ?_
  rintro e w' ⟨rfl, m, rfl⟩
  go_wp2_with fail
  refine (field_any b v l dr sp p n _ (H.out.drewN m) hs hn hp).mono ?_
  rintro e w' ⟨rfl, m2, rfl⟩
  go_wp2_with fail
  go_ret2
  obtain ⟨d1, d2⟩ := (H.out.drewN (m + m2)).at_ (p + n) (by omega) hp ((p : Int) + (n : Int)) (by omega)
  exact ⟨rfl, d1, (touch_drewN (· = b) w (m + m2)).trans d2 (fun i hi => Or.inl hi)⟩
set_option maxHeartbeats 400000 in
theorem get_bad (b : Nat) (n : Int) (w : World) (h : n < 0 ∨ 32 < n) :
    Calls Tryz.prog 187 #[.pointer (some ⟨b, 0, none⟩), .int .i64 n] w fun e w' => e = .returned (.tuple #[.int .u32 0, .int .i64 1]) ∧ w = w' := by
  go_enter Tryz.func187, Tryz.ntmps187
  go_wp2_with fail
  refine (isLength_no _ _ h).mono ?_
  rintro e w' ⟨rfl, rfl⟩
  go_wp2_with fail
  go_ret2
  exact ⟨rfl, rfl⟩
set_option maxHeartbeats 400000 in
theorem get_short (b : Nat) (v : Value) (l : List UInt8) (dr sp p n : Nat) (w : World) (h : IsReader w b v l dr sp p) (hs : dr + l.length ≤ 1099511627776) (hn : n ≤ 32) (hp : 8 * (dr + l.length) < p + n) :
    Calls Tryz.prog 187 #[.pointer (some ⟨b, 0, none⟩), .int .i64 (n : Int)] w fun e w' => e = .returned (.tuple #[.int .u32 0, .int .i64 3]) ∧ ∃ m, w' = w.drewN m := by
  obtain ⟨L, hL⟩ : ∃ L, 8 * (dr + l.length) - p = L := ⟨_, rfl⟩
  have h2 := h.2.2.2.2
  have hn1 : (L : Int) < n := by omega
  have H := Lib.hid h
  have HL := Lib.hid hL
  clear h hL h2
  go_enter Tryz.func187, Tryz.ntmps187
  go_wp2_with fail
  refine (isLength_yes _ _ (by omega) (by omega)).mono ?_
  rintro e w' ⟨rfl, rfl⟩
  go_wp2_with fail
  refine (rleft_any b v l dr sp p L w H.out hs HL.out).mono ?_
  rintro e w' ⟨rfl, m, rfl⟩
  go_wp2_with fail
  go_ret2
  exact ⟨rfl, m, rfl⟩
set_option maxHeartbeats 400000 in
theorem newReader_any (s : ByteArray) (w : World) (hs : s.size ≤ maxLen) :
    Calls Tryz.prog 22 #[.string s] w fun e w' => ∃ b v, e = .returned (.pointer (some ⟨b, 0, none⟩)) ∧ IsReader w' b v s.data.toList 0 0 0 ∧ Below w.heap.size w w' ∧ (∀ k, foot b v k → w.heap.size ≤ k) := by
  have hcv := run_bytes_of_string (P := Tryz.prog) w 9 71 5 s Tryz.underlying9 Tryz.underlying71 Tryz.underlying5
  have hge := grownCap_ge w s.size 0 5
  have hle := grownCap_le_maxLen w s.size 0 5 hs
  have hsz : (bytesRow s (grownCap w s.size 0 5)).size = grownCap w s.size 0 5 := by
    have : s.data.size = s.size := rfl
    simp [bytesRow]; omega
  have HB : Hid (∀ i, i < grownCap w s.size 0 5 → ∃ n, (bytesRow s (grownCap w s.size 0 5))[i]? = some (.int .u8 n)) := Lib.hid fun i hi => by
    by_cases h : i < s.data.size
    · exact ⟨_, bytesRow_at s _ i h⟩
    · refine ⟨0, ?_⟩
      have e : s.data.size = s.size := rfl
      unfold bytesRow
      rw [Array.getElem?_append_right (by simp; omega), Array.getElem?_replicate, if_pos (by rw [Array.size_map, e]; omega)]
  generalize grownCap w s.size 0 5 = C at *
  have HBA : Hid (∀ (i : Nat) (x : UInt8), s.data.toList[i]? = some x → (bytesRow s C)[i]? = some (u8v x)) := Lib.hid fun i x hx => by
    obtain ⟨hi, rfl⟩ := List.getElem?_eq_some_iff.1 hx
    exact bytesRow_at s _ i (by simpa using hi)
  generalize bytesRow s C = R at *
  have HGE := Lib.hid hge
  have HLE := Lib.hid hle
  have HSZ := Lib.hid hsz
  clear hge hle hsz
  go_enter Tryz.func22, Tryz.ntmps22
  go_wp2_with fail
  go_ret
  have e : s.data.toList.length = s.size := rfl
  have ho := heap_alloc2_old w (.cells R 5 (R.size, R.size + 1)) (.cells #[.slice (some ⟨w.heap.size, 0, none⟩) s.size C, .int .i64 0, .int .i64 0, .int .i64 0] 91)
  refine ⟨w.heap.size + 1, .slice (some ⟨w.heap.size, 0, none⟩) s.size C, rfl, ⟨heap_alloc2_new _ _ _, Or.inr ⟨w.heap.size, 0, C, rfl, (Array.getElem?_eq_some_iff.1 ho).1, by rw [e]; exact HGE.out, HLE.out, fun i x hx => ?_, fun i hi => ?_, fun i hi => ?_⟩, ?_, by omega, by omega⟩, ?_, ?_⟩
  · exact (cell_of_row _ _ _ _ _ _ ho).trans (by rw [Nat.zero_add]; exact HBA.out i x hx)
  · exact (HB.out i hi).imp fun n hn => (cell_of_row _ _ _ _ _ _ ho).trans (by rw [Nat.zero_add]; exact hn)
  · have hi2 : i < R.size := by rw [HSZ.out]; exact hi
    refine Eq.trans (b := decide (R.size ≤ 0 + i) && decide (0 + i < R.size + 1)) ?_ (by simp; omega)
    have hx : ∀ (X : World), X.heap[w.heap.size]? = some (.cells R 5 (R.size, R.size + 1)) → X.frozen? ⟨w.heap.size, 0 + i, none⟩ = (decide (R.size ≤ 0 + i) && decide (0 + i < R.size + 1)) := fun X hX => by
      unfold World.frozen?
      rw [hX]
    exact hx _ ho
  · intro k hk
    simp [Value.ownBlock] at hk
    omega
  · exact (((Below.refl _ _).alloc (Nat.le_refl _) _).alloc (by simp) _).drew
  · intro k hk
    rcases hk with rfl | hk
    · omega
    · simp [Value.ownBlock] at hk; omega
end Go.Proofs.YtnachbjhhpnadaaGreatDoor

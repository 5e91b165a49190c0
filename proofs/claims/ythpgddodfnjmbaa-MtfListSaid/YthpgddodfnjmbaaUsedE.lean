/-
  THE WALKS OF LAYER 5's CODE (package used): read.
-/
import Derived.Test.YthpgddodfnjmbaaUsedD
namespace Go.Proofs.Ythpgddodfnjmbaa
open Go.RowKit BitM UsedM
set_option linter.unusedVariables false

theorem take_map (Q : List Bool) (n : Nat) (h : n + 16 ≤ Q.length) (f : Nat → Bool) (hf : ∀ k, k < 16 → f k = Q.getD (n + k) false) : (List.range 16).map f = (Q.drop n).take 16 := by
  apply List.ext_getElem?
  intro i
  by_cases hi : i < 16
  · rw [List.getElem?_map, List.getElem?_range hi, List.getElem?_take, if_pos hi, List.getElem?_drop]
    have hl : n + i < Q.length := by omega
    rw [List.getElem?_eq_getElem hl, Option.map_some, hf i hi, List.getD_eq_getElem?_getD, List.getElem?_eq_getElem hl]
    rfl
  · rw [List.getElem?_eq_none (by simp; omega), List.getElem?_eq_none (by simp; omega)]
theorem fld_take (Q : List Bool) (h : 16 ≤ Q.length) : fld (fun i => Q.getD i false) 0 = num (Q.take 16) := by
  unfold fld row
  rw [take_map Q 0 (by omega) _ (fun k hk => by simp)]
  rfl
/-- One sixteen more was read. -/
def more (Q : List Bool) (n k : Nat) (S : Nat → Bool) : Nat → Bool := fun b => if b / 16 = k then Q.getD (n + b % 16) false else S b
theorem fld_more (Q : List Bool) (n k : Nat) (S : Nat → Bool) (h : n + 16 ≤ Q.length) : fld (more Q n k S) k = num ((Q.drop n).take 16) := by
  unfold fld row
  rw [take_map Q n h _ (fun j hj => by
    unfold more
    rw [if_pos (by omega), show (16 * k + j) % 16 = j by omega])]
theorem fld_more_other (Q : List Bool) (n k : Nat) (S : Nat → Bool) (i : Nat) (h : i ≠ k) : fld (more Q n k S) i = fld S i := by
  apply fld_congr
  intro j hj
  unfold more
  rw [if_neg (by omega)]
theorem arr_more (Q : List Bool) (n k : Nat) (S : Nat → Bool) (hk : k < 16) (h : n + 16 ≤ Q.length) (X : Int) (hX : X = (num ((Q.drop n).take 16) : Int)) : (arr S).setIfInBounds k (.int .u32 X) = arr (more Q n k S) := by
  subst hX
  apply arr_ext
  · simp [arr_size]
  · intro i hi
    rw [Array.getElem?_setIfInBounds]
    by_cases e : k = i
    · subst e
      rw [if_pos rfl, if_pos (by rw [arr_size]; omega), fld_more Q n k S h]
    · rw [if_neg e, arr_get S i hi, fld_more_other Q n k S i (fun h => e h.symm)]
/-- What the loop of 'read' knows, ahead of the k-th sixteen. -/
structure RdInv (w wr : World) (b N : Nat) (Z0 : Array Value) (v : Value) (l : List UInt8) (dr sp p : Nat) (Q : List Bool) (k : Nat) (cs : Array Value) (e p' : Nat) : Prop where
  res : wr.heap[N]? = some (.cells Z0 73 (0, 0))
  arr : wr.heap[N + 1]? = some (.cells cs 73 (0, 0))
  size : cs.size = 16
  one : cs.all (·.oneCell') = true
  rd : IsReader wr b v l dr sp p'
  touch : Touch (· = b) w wr
  old : ∀ j, foot b v j → j < N
  what : match rdk Q k with
    | none => e = 3
    | some (n, S) => e = 0 ∧ cs = Go.Proofs.Ythpgddodfnjmbaa.arr S ∧ p' = p + n
theorem RdInv.drewN {w wr : World} {b N : Nat} {Z0 : Array Value} {v : Value} {l : List UInt8} {dr sp p : Nat} {Q : List Bool} {k : Nat} {cs : Array Value} {e p' : Nat} (h : RdInv w wr b N Z0 v l dr sp p Q k cs e p') (n : Nat) : RdInv w (wr.drewN n) b N Z0 v l dr sp p Q k cs e p' :=
  ⟨h.res, h.arr, h.size, h.one, h.rd.drewN n, h.touch.trans (touch_drewN (· = b) wr n) (fun i hi => Or.inl hi), h.old, h.what⟩
theorem RdInv.none_ {w wr : World} {b N : Nat} {Z0 : Array Value} {v : Value} {l : List UInt8} {dr sp p : Nat} {Q : List Bool} {k : Nat} {cs : Array Value} {e p' : Nat} (h : RdInv w wr b N Z0 v l dr sp p Q k cs e p') (hn : rdk Q k = none) :
    e = 3 ∧ RdInv w wr b N Z0 v l dr sp p Q (k + 1) cs e p' := by
  have hw := h.what
  rw [hn] at hw
  refine ⟨hw, h.res, h.arr, h.size, h.one, h.rd, h.touch, h.old, ?_⟩
  rw [rdk_succ, hn]
  exact hw
theorem RdInv.skip {w wr : World} {b N : Nat} {Z0 : Array Value} {v : Value} {l : List UInt8} {dr sp p : Nat} {Q : List Bool} {k : Nat} {cs : Array Value} {e p' n : Nat} {S : Nat → Bool} (h : RdInv w wr b N Z0 v l dr sp p Q k cs e p') (hn : rdk Q k = some (n, S)) (hq : Q.getD k false = false) :
    RdInv w wr b N Z0 v l dr sp p Q (k + 1) cs e p' := by
  have hw := h.what
  rw [hn] at hw
  refine ⟨h.res, h.arr, h.size, h.one, h.rd, h.touch, h.old, ?_⟩
  rw [rdk_succ, hn]
  simp only [hq]
  exact hw
/-- What 'Get(16)' tells. -/
def Got16 (w w' : World) (b : Nat) (v : Value) (l : List UInt8) (dr sp p X E P : Nat) : Prop :=
  IsReader w' b v l dr sp P ∧ Touch (· = b) w w' ∧ ((8 * (dr + l.length) < p + 16 ∧ X = 0 ∧ E = 3 ∧ P = p) ∨ (p + 16 ≤ 8 * (dr + l.length) ∧ X = num (((bitsOf l).drop (p - 8 * dr)).take 16) ∧ E = 0 ∧ P = p + 16))
theorem get16 (b : Nat) (v : Value) (l : List UInt8) (dr sp p : Nat) (w : World) (h : IsReader w b v l dr sp p) (hs : dr + l.length ≤ 1099511627776) :
    Calls Try.prog 68 #[.pointer (some ⟨b, 0, none⟩), .int .i64 16] w fun e w' => ∃ X E P : Nat, e = .returned (.tuple #[.int .u32 (X : Int), .int .i64 (E : Int)]) ∧ Got16 w w' b v l dr sp p X E P := by
  by_cases hl : p + 16 ≤ 8 * (dr + l.length)
  · refine (get_any b v l dr sp p 16 w h hs (by omega) hl).mono ?_
    rintro e w' ⟨rfl, h1, h2⟩
    exact ⟨_, 0, _, rfl, h1, h2, Or.inr ⟨hl, rfl, rfl, rfl⟩⟩
  · refine (get_short b v l dr sp p 16 w h hs (by omega) (by omega)).mono ?_
    rintro e w' ⟨rfl, m, rfl⟩
    exact ⟨0, 3, p, rfl, h.drewN m, touch_drewN _ _ _, Or.inl ⟨by omega, rfl, rfl, rfl⟩⟩
theorem left_length (l : List UInt8) (dr p : Nat) (h : 8 * dr ≤ p) : ((bitsOf l).drop (p - 8 * dr)).length = 8 * (dr + l.length) - p := by
  rw [List.length_drop, bitsOf_length]; omega
/-- The k-th sixteen is told to be used: its bits are got, or there are too few. -/
theorem RdInv.get {w wr w2 : World} {b N : Nat} {Z0 : Array Value} {v : Value} {l : List UInt8} {dr sp p : Nat} {k : Nat} {cs : Array Value} {e p' n X E P : Nat} {S : Nat → Bool} (h : RdInv w wr b N Z0 v l dr sp p ((bitsOf l).drop (p - 8 * dr)) k cs e p') (hp : 8 * dr ≤ p) (hn : rdk ((bitsOf l).drop (p - 8 * dr)) k = some (n, S))
    (hq : ((bitsOf l).drop (p - 8 * dr)).getD k false = true) (hk : k < 16) (hN : w.heap.size = N) (hg : Got16 wr w2 b v l dr sp p' X E P) :
    w2.cell? ⟨N + 1, k, none⟩ = some (.int .u32 (fld S k : Int)) ∧ w2.frozen? ⟨N + 1, k, none⟩ = false ∧
    RdInv w (w2.setCell ⟨N + 1, k, none⟩ (.int .u32 (X : Int))) b N Z0 v l dr sp p ((bitsOf l).drop (p - 8 * dr)) (k + 1) (cs.setIfInBounds k (.int .u32 (X : Int))) E P := by
  have hw := h.what
  rw [hn] at hw
  obtain ⟨_, rfl, rfl⟩ := hw
  obtain ⟨hr, ht, hx⟩ := hg
  have hlt := (Array.getElem?_eq_some_iff.1 h.res).1
  have hlt1 := (Array.getElem?_eq_some_iff.1 h.arr).1
  have hbN := h.old b (Or.inl rfl)
  have e1 : w2.heap[N + 1]? = some (.cells (Go.Proofs.Ythpgddodfnjmbaa.arr S) 73 (0, 0)) := (ht.block _ hlt1 (fun e => by have e' : N + 1 = b := e; omega)).trans h.arr
  have e0 : w2.heap[N]? = some (.cells Z0 73 (0, 0)) := (ht.block _ hlt (fun e => by have e' : N = b := e; omega)).trans h.res
  refine ⟨?_, frozen_of_row _ _ _ _ _ e1, ⟨?_, heap_setCell_same _ _ k _ _ _ e1, by simp [arr_size], ?_, ?_, ?_, h.old, ?_⟩⟩
  · rw [cell_of_row _ _ _ _ _ _ e1, arr_get S k hk]
  · rw [heap_setCell_other _ _ _ _ (by simp)]; exact e0
  · rw [Array.all_eq_true]
    intro i hi
    rw [Array.getElem_setIfInBounds]
    split
    · rfl
    · exact Array.all_eq_true.1 (arr_cells S) i (by simpa using hi)
  · refine hr.other (S := (· = N + 1)) ((Touch.refl (· = N + 1) w2).setCell (p := ⟨N + 1, k, none⟩) (Or.inl rfl) _) (fun j hj e => ?_)
    have := h.old j hj
    have e' : j = N + 1 := e
    omega
  · exact (h.touch.trans ht (fun i hi => Or.inl hi)).setCell (Or.inr (by simp; omega)) _
  · have hll := left_length l dr p hp
    have hnl := rdk_le _ _ _ _ hn
    rw [rdk_succ, hn]
    simp only [hq, if_true]
    rcases hx with ⟨h1, rfl, rfl, rfl⟩ | ⟨h1, rfl, rfl, rfl⟩
    · rw [if_pos (by omega)]
    · rw [if_neg (by omega)]
      refine ⟨by first | rfl | trivial, ?_, by omega⟩
      refine arr_more _ n k S hk (by omega) _ ?_
      rw [List.drop_drop, show p + n - 8 * dr = p - 8 * dr + n by omega]
/-- What 'read' tells. -/
def ReadP (w w' : World) (b : Nat) (v : Value) (l : List UInt8) (dr sp p : Nat) (A : Array Value) (err p' : Nat) : Prop :=
  IsReader w' b v l dr sp p' ∧ Touch (· = b) w w' ∧ A.size = 16 ∧ A.all (·.oneCell') = true ∧ match rdk ((bitsOf l).drop (p - 8 * dr)) 16 with
    | none => err = 3
    | some (n, S) => (syms S 256 = [] ∧ err = 25) ∨ (syms S 256 ≠ [] ∧ err = 0 ∧ A = Go.Proofs.Ythpgddodfnjmbaa.arr S ∧ p' = p + n)
theorem results_cell_slot {P : Program} {fn : Func} {p q : Tmp} {ty : TypeId} (h : fn.results = #[.cell p ty, .tmp q]) (tmps : Array Value) (w : World) (a : Addr) (cs : Array Value) (e : Value)
    (hp : tmps.getD p undef = .pointer (some a)) (hq : tmps.getD q undef = e) (hl : (loadVar ty a).run P w = .ok (.agg cs) w) :
    (results fn tmps).run P w = .ok (.tuple #[.agg cs, e]) w := by
  have hp' : tmps[p]?.getD undef = .pointer (some a) := by simpa using hp
  have hq' : tmps[q]?.getD undef = e := by simpa using hq
  simp [results, h, hp', hq', asAddr, hl]
theorem info16 (A : Array Value) (h : A.size = 16) : (Try.prog.info? 73).map (·.size) = some A.size := by rw [h]; kernel_rfl
set_option maxRecDepth 100000 in
set_option maxHeartbeats 1000000 in
theorem read_any (b : Nat) (v : Value) (l : List UInt8) (dr sp p : Nat) (w : World) (h : IsReader w b v l dr sp p) (hs : dr + l.length ≤ 1099511627776) :
    Calls Try.prog 59 #[.pointer (some ⟨b, 0, none⟩)] w fun e w' => ∃ (A : Array Value) (err p' : Nat), e = .returned (.tuple #[.agg A, .int .i64 (err : Int)]) ∧ ReadP w w' b v l dr sp p A err p' := by
  have hp := h.2.2.2.1
  have H := Lib.hid h
  have HZ := Lib.hid zero16
  go_enter Try.func59, Try.ntmps59
  go_wp2_with fail
  refine (get16 b v l dr sp p _ (h.other (((Touch.refl (fun _ => False) w).alloc _).alloc _) (fun _ _ h => h)) hs).mono ?_
  clear h
  rintro e w1 ⟨X, E, P, rfl, hg⟩
  have H0 : RdInv w w1 b w.heap.size #[.int .u32 0, .int .u32 0, .int .u32 0, .int .u32 0, .int .u32 0, .int .u32 0, .int .u32 0, .int .u32 0, .int .u32 0, .int .u32 0, .int .u32 0, .int .u32 0, .int .u32 0, .int .u32 0, .int .u32 0, .int .u32 0] v l dr sp p ((bitsOf l).drop (p - 8 * dr)) 0 #[.int .u32 0, .int .u32 0, .int .u32 0, .int .u32 0, .int .u32 0, .int .u32 0, .int .u32 0, .int .u32 0, .int .u32 0, .int .u32 0, .int .u32 0, .int .u32 0, .int .u32 0, .int .u32 0, .int .u32 0, .int .u32 0] E P := by
    have hlt := H.out.lt b (Or.inl rfl)
    refine ⟨?_, ?_, rfl, by rw [HZ.out]; exact arr_cells _, hg.1, ?_, H.out.lt, ?_⟩
    · exact (hg.2.1.block _ (by simp; omega) (fun e => by have e' : w.heap.size = b := e; omega)).trans (heap_alloc2_old _ _ _)
    · exact (hg.2.1.block _ (by simp) (fun e => by have e' : w.heap.size + 1 = b := e; omega)).trans (heap_alloc2_new _ _ _)
    · exact (((Touch.refl (· = b) w).alloc _).alloc _).trans hg.2.1 (fun i hi => Or.inl hi)
    · rw [rdk_zero, left_length l dr p hp]
      rcases hg.2.2 with ⟨h1, _, rfl, rfl⟩ | ⟨h1, _, rfl, rfl⟩
      · rw [if_pos (by omega)]
      · rw [if_neg (by omega)]
        exact ⟨rfl, HZ.out, rfl⟩
  have HX : 16 ≤ ((bitsOf l).drop (p - 8 * dr)).length → X = fld (fun i => ((bitsOf l).drop (p - 8 * dr)).getD i false) 0 := fun hl => by
    rw [left_length l dr p hp] at hl
    rcases hg.2.2 with ⟨h1, _, _, _⟩ | ⟨h1, h2, _, _⟩
    · omega
    · rw [fld_take _ (by rw [left_length l dr p hp]; exact hl)]
      exact h2
  have HI := Lib.hid H0
  have HXX := Lib.hid HX
  clear hg H0 HX
  go_wp2_with fail
  go_loopw [6, 13] (fun x i wr => ∃ (k : Nat) (cs : Array Value) (e p' : Nat), k ≤ 16 ∧ i = .int .i64 k ∧ x = .int .i64 (e : Int) ∧ RdInv w wr b w.heap.size #[.int .u32 0, .int .u32 0, .int .u32 0, .int .u32 0, .int .u32 0, .int .u32 0, .int .u32 0, .int .u32 0, .int .u32 0, .int .u32 0, .int .u32 0, .int .u32 0, .int .u32 0, .int .u32 0, .int .u32 0, .int .u32 0] v l dr sp p ((bitsOf l).drop (p - 8 * dr)) k cs e p') (fun _ i _ => 16 - (intOf i).toNat)
  case atStart => exact ⟨0, _, _, _, by omega, rfl, rfl, HI.out⟩
  case round =>
    clear HI
    obtain ⟨k, cs, e, p', hk, rfl, rfl, hI⟩ := hrel
    have HI := Lib.hid hI
    clear hI
    by_cases hlt : k < 16
    · have hk2 : (k : Int) < 16 := by omega
      rcases hrd : rdk ((bitsOf l).drop (p - 8 * dr)) k with _ | ⟨n, S⟩
      · obtain ⟨rfl, hN⟩ := HI.out.none_ hrd
        have HN := Lib.hid hN
        clear hN hrd
        go_wp2_with fail
        go_roundw
        case rel => exact ⟨k + 1, cs, 3, p', by omega, by go_num, rfl, HN.out⟩
        case measure => simp [intOf]; omega
      · have hw := HI.out.what
        rw [hrd] at hw
        obtain ⟨rfl, _, hpp⟩ := hw
        have hnl := rdk_le _ _ _ _ hrd
        have hX := HXX.out (by omega)
        have hfl := fld_lt (fun i => ((bitsOf l).drop (p - 8 * dr)).getD i false) 0
        obtain ⟨Z, hZ⟩ : ∃ Z, 2 ^ (15 - k) = Z := ⟨_, rfl⟩
        have hZ1 : Z ≤ 32768 := by
          have : 2 ^ (15 - k) ≤ 2 ^ 15 := Nat.pow_le_pow_right (by omega) (by omega)
          omega
        have hZ0 : 0 < Z := by
          have := Nat.two_pow_pos (15 - k)
          omega
        have ha := fld_and (fun i => ((bitsOf l).drop (p - 8 * dr)).getD i false) 0 k hlt
        rw [hZ, ← hX] at ha
        have htest := and_code' X Z (((bitsOf l).drop (p - 8 * dr)).getD k false) (by omega) hZ1 hZ0 (by simpa using ha)
        have HZZ := Lib.hid hZ
        have HRD := Lib.hid hrd
        clear hX hZ ha hrd hZ0 hZ1 hfl hnl
        by_cases hq : ((bitsOf l).drop (p - 8 * dr)).getD k false = true
        · rw [hq] at htest
          have HQ := Lib.hid hq
          clear hq
          go_wp2_with fail
          refine (bit_any _ k Z _ rfl (by omega) HZZ.out).mono ?_
          rintro e w' ⟨rfl, rfl⟩
          go_wp2_with fail
          refine (get16 b v l dr sp p' wr HI.out.rd hs).mono ?_
          rintro e w2 ⟨X2, E2, P2, rfl, hg⟩
          obtain ⟨d0, d1, hN⟩ := HI.out.get hp HRD.out HQ.out hlt rfl hg
          have HN := Lib.hid hN
          generalize fld S k = F at *
          clear hg hN
          go_wp2_with fail
          go_roundw
          case rel => exact ⟨k + 1, _, E2, P2, by omega, by go_num, rfl, HN.out⟩
          case measure => simp [intOf]; omega
        · have hqf : ((bitsOf l).drop (p - 8 * dr)).getD k false = false := by simpa using hq
          rw [hqf] at htest
          have HN := Lib.hid (HI.out.skip HRD.out hqf)
          clear hq hqf
          go_wp2_with fail
          refine (bit_any _ k Z _ rfl (by omega) HZZ.out).mono ?_
          rintro e w' ⟨rfl, rfl⟩
          go_wp2_with fail
          go_roundw
          case rel => exact ⟨k + 1, cs, 0, p', by omega, by go_num, rfl, HN.out⟩
          case measure => simp [intOf]; omega
    · obtain rfl : k = 16 := by omega
      have hi := info16 cs HI.out.size
      have hold : (#[.int .u32 0, .int .u32 0, .int .u32 0, .int .u32 0, .int .u32 0, .int .u32 0, .int .u32 0, .int .u32 0, .int .u32 0, .int .u32 0, .int .u32 0, .int .u32 0, .int .u32 0, .int .u32 0, .int .u32 0, .int .u32 0] : Array Value).size = cs.size := HI.out.size.symm
      have hres := HI.out.res
      have harr := HI.out.arr
      have hone := HI.out.one
      have hset := setRow_heap wr _ _ cs _ _ hres
      have hld := run_loadVar_row (P := Try.prog) (wr.setRow w.heap.size cs) w.heap.size 73 73 cs (0, 0) _ hset Try.underlying73 rfl hi
      have hfin : ∀ err, (match rdk ((bitsOf l).drop (p - 8 * dr)) 16 with
          | none => err = 3
          | some (n, S) => (syms S 256 = [] ∧ err = 25) ∨ (syms S 256 ≠ [] ∧ err = 0 ∧ cs = arr S ∧ p' = p + n)) → ReadP w (wr.setRow w.heap.size cs) b v l dr sp p cs err p' := fun err hm => by
        have ht : Touch (· = w.heap.size) wr (wr.setRow w.heap.size cs) := ⟨rfl, rfl, rfl, by simp [World.setRow], fun j _ hj => setRow_other wr _ j _ hj⟩
        exact ⟨HI.out.rd.other ht (fun j hj e => by
          have := HI.out.old j hj
          have e' : j = w.heap.size := e
          omega), HI.out.touch.trans ht (fun j hj => Or.inr (Nat.le_of_eq (Eq.symm hj))), HI.out.size, HI.out.one, hm⟩
      have HF := Lib.hid hfin
      clear hfin
      rcases hrd : rdk ((bitsOf l).drop (p - 8 * dr)) 16 with _ | ⟨n, S⟩
      · obtain ⟨rfl, _⟩ := HI.out.none_ hrd
        have HE := Lib.hid (HF.out 3 (by rw [hrd]))
        clear hrd hset
        go_wp2_with (first | (refine wpList_load_row rfl 73 _ rfl (w.heap.size + 1) rfl 73 cs (0, 0) _ harr Try.underlying73 rfl hi ?_) | (refine wpList_store_row rfl 73 _ _ rfl w.heap.size cs rfl rfl 73 _ hres hi hold hone ?_))
        refine bodyPost_ret (v := .tuple #[.agg cs, .int .i64 3]) (results_cell_slot rfl _ _ ⟨w.heap.size, 0, none⟩ cs _ rfl rfl hld) rfl ⟨cs, 3, p', rfl, HE.out⟩
      · have hw := HI.out.what
        rw [hrd] at hw
        obtain ⟨rfl, hcs, hpp⟩ := hw
        have hout := rdk_out _ _ _ _ hrd
        by_cases hsy : syms S 256 = []
        · have heq : ∀ W, (binOp .eql 73 (.agg cs) (.agg #[.int .u32 0, .int .u32 0, .int .u32 0, .int .u32 0, .int .u32 0, .int .u32 0, .int .u32 0, .int .u32 0, .int .u32 0, .int .u32 0, .int .u32 0, .int .u32 0, .int .u32 0, .int .u32 0, .int .u32 0, .int .u32 0])).run Try.prog W = .ok (.bool true) W := fun W => by
            rw [hcs, HZ.out]
            exact arr_eql S _ true (by rw [all_zero S (fun b hb => hout b (by omega)), decide_eq_true_eq]; exact hsy) W
          have HE := Lib.hid (HF.out 25 (by rw [hrd]; exact Or.inl ⟨hsy, rfl⟩))
          clear hrd hset hcs hout hsy
          go_wp2_with (first | ((refine BigFrame.wpList_want rfl (fun K hK => wp_load_row 73 _ rfl (w.heap.size + 1) rfl 73 cs (0, 0) _ harr Try.underlying73 rfl hi (hK _ _ ?_)))) | (refine wpList_load_row rfl 73 _ rfl (w.heap.size + 1) rfl 73 cs (0, 0) _ harr Try.underlying73 rfl hi ?_) | (refine wpList_store_row rfl 73 _ _ rfl w.heap.size cs rfl rfl 73 _ hres hi hold hone ?_))
          refine bodyPost_ret (v := .tuple #[.agg cs, .int .i64 25]) (results_cell_slot rfl _ _ ⟨w.heap.size, 0, none⟩ cs _ rfl rfl hld) rfl ⟨cs, 25, p', rfl, HE.out⟩
        · have heq : ∀ W, (binOp .eql 73 (.agg cs) (.agg #[.int .u32 0, .int .u32 0, .int .u32 0, .int .u32 0, .int .u32 0, .int .u32 0, .int .u32 0, .int .u32 0, .int .u32 0, .int .u32 0, .int .u32 0, .int .u32 0, .int .u32 0, .int .u32 0, .int .u32 0, .int .u32 0])).run Try.prog W = .ok (.bool false) W := fun W => by
            rw [hcs, HZ.out]
            exact arr_eql S _ false (by rw [all_zero S (fun b hb => hout b (by omega)), decide_eq_false_iff_not]; exact hsy) W
          have HE := Lib.hid (HF.out 0 (by rw [hrd]; exact Or.inr ⟨hsy, rfl, hcs, hpp⟩))
          clear hrd hset hcs hout hsy
          go_wp2_with (first | (refine BigFrame.wpList_want rfl (fun K hK => wp_load_row 73 _ rfl (w.heap.size + 1) rfl 73 cs (0, 0) _ harr Try.underlying73 rfl hi (hK _ _ ?_))) | (refine wpList_load_row rfl 73 _ rfl (w.heap.size + 1) rfl 73 cs (0, 0) _ harr Try.underlying73 rfl hi ?_) | (refine wpList_store_row rfl 73 _ _ rfl w.heap.size cs rfl rfl 73 _ hres hi hold hone ?_))
          refine bodyPost_ret (v := .tuple #[.agg cs, .int .i64 0]) (results_cell_slot rfl _ _ ⟨w.heap.size, 0, none⟩ cs _ rfl rfl hld) rfl ⟨cs, 0, p', rfl, HE.out⟩
end Go.Proofs.Ythpgddodfnjmbaa

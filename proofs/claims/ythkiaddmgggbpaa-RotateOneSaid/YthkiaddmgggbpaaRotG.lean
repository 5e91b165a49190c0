/-
  THE WALKS OF LAYER 15's CODE (package rotate): follower, Sorted.
-/
import Derived.Test.YthkiaddmgggbpaaRotF
import Derived.Laws.EntriesVeiled
namespace Go.Proofs.Ythkiaddmgggbpaa
open Go.RowKit BwtM PkM
set_option linter.unusedVariables false
def FolP (w w' : World) (s : ByteArray) (g n : Nat) (L : List Int) (e : Ending) : Prop :=
  ∃ p b3 b5 b6 b7 b8 tb, e = .returned (folV b8 b7 b5) ∧ Fol w' s g n p b3 b5 b6 b7 b8 tb L ∧ PerP s.data.toList n p ∧ Below w.heap.size w w'
theorem one_cell {w : World} {cs : Array Value} {t : TypeId} : ∀ {v : Value}, cs = #[v] → (w.alloc (.cells cs t)).cell? ⟨w.heap.size, 0, none⟩ = some v := by
  rintro v rfl
  rw [cell_of_row _ _ 0 _ _ _ (heap_alloc_new _ _)]
  rfl
theorem alloc_size (w : World) (o : Obj) : (w.alloc o).heap.size = w.heap.size + 1 := by show (w.heap.push _).size = _; simp
set_option maxRecDepth 100000 in
set_option maxHeartbeats 4000000 in
theorem follower_any (s : ByteArray) (g n : Nat) (L : List Int) (w : World) (hs : s.size = n) (hn : n ≤ 1000) (hR : RowI w g L) :
    Calls Try.prog 41 #[.string s, .slice (some ⟨g, 0, none⟩) n n] w fun e w' => FolP w w' s g n L e := by
  have HR := Lib.hid hR
  have HBX : Hid (Below w.heap.size w (w.alloc (.cells #[.slice (some ⟨g, 0, none⟩) n n] 33))) := Lib.hid ((Below.refl _ _).alloc (Nat.le_refl _) _)
  have HC3 : Hid ((w.alloc (.cells #[.slice (some ⟨g, 0, none⟩) n n] 33)).cell? ⟨w.heap.size, 0, none⟩ = some (.slice (some ⟨g, 0, none⟩) n n)) := Lib.hid (one_cell rfl)
  have HSZ : Hid ((w.alloc (.cells #[.slice (some ⟨g, 0, none⟩) n n] 33)).heap.size = w.heap.size + 1) := Lib.hid (alloc_size _ _)
  have HPE := Lib.hid (fun W => per_any s W (by omega))
  rw [hs] at HPE
  have hgl := hR.lt
  have HGL := Lib.hid hgl
  clear hR hgl
  go_enter Try.func41, Try.ntmps41
  go_wp2_with fail
  generalize w.alloc (.cells #[.slice (some ⟨g, 0, none⟩) n n] 33) = w0 at *
  refine (round_any s w0).mono ?_
  rintro e w1 ⟨rfl, ht, hb, hlt⟩
  have HT := Lib.hid ht
  have HB1 := Lib.hid (HBX.out.trans (hb.mono HBX.out.size))
  have HB1' := Lib.hid hb
  have HLT := Lib.hid hlt
  clear ht hb hlt
  obtain ⟨tb, htb⟩ : ∃ tb, w0.heap.size = tb := ⟨_, rfl⟩
  have HTB := Lib.hid htb
  rw [htb] at HT HLT HB1'
  have h3 := HSZ.out
  clear htb
  go_wp2_with fail
  refine (HPE.out w1).mono ?_
  rintro e w2 ⟨⟨p, rfl, hp⟩, hb⟩
  have HP := Lib.hid hp
  have HB2 := Lib.hid (HB1.out.trans (hb.mono HB1.out.size))
  have HT2 := Lib.hid (HT.out.below hb HLT.out)
  have HC2 : Hid (w2.cell? ⟨w.heap.size, 0, none⟩ = some (.slice (some ⟨g, 0, none⟩) n n)) := Lib.hid ((hb.cell (p := ⟨w.heap.size, 0, none⟩) (by have := HLT.out; have := HTB.out; have := HSZ.out; show w.heap.size < _; omega)).trans ((HB1'.out.cell (p := ⟨w.heap.size, 0, none⟩) (by have := HTB.out; have := HSZ.out; show w.heap.size < _; omega)).trans HC3.out))
  have HS2 : Hid (tb < w2.heap.size ∧ w.heap.size < w2.heap.size) := Lib.hid ⟨Nat.lt_of_lt_of_le HLT.out hb.size, by have := hb.size; have := HLT.out; have := HTB.out; have := HSZ.out; omega⟩
  clear hp hb h3
  obtain ⟨k, hk⟩ : ∃ k, w2.heap.size = k := ⟨_, rfl⟩
  have htk : tb < k ∧ w.heap.size < k := by rw [← hk]; exact HS2.out
  have hwk : w.heap.size < k := htk.2
  have HK := Lib.hid hk
  have HTK := Lib.hid htk
  obtain ⟨W3, hW3⟩ : ∃ W3, ((w2.alloc (.cells #[.nilFunc] 52)).alloc (.cells #[.int .i64 0] 3)).alloc (.cells #[.int .i64 0] 3) = W3 := ⟨_, rfl⟩
  have hh5 : W3.heap[k]? = some (.cells #[.nilFunc] 52 (0, 0)) := by
    rw [← hW3, alloc_old (by rw [alloc_size, alloc_size, hk]; omega), alloc_old (by rw [alloc_size, hk]; omega), ← hk]
    exact heap_alloc_new _ _
  have hh6 : W3.heap[k + 1]? = some (.cells #[.int .i64 0] 3 (0, 0)) := by
    rw [← hW3, alloc_old (by rw [alloc_size, alloc_size, hk]; omega), show k + 1 = (w2.alloc (.cells #[.nilFunc] 52)).heap.size by rw [alloc_size, hk]]
    exact heap_alloc_new _ _
  have hh7 : W3.heap[k + 1 + 1]? = some (.cells #[.int .i64 0] 3 (0, 0)) := by
    rw [← hW3, show k + 1 + 1 = ((w2.alloc (.cells #[.nilFunc] 52)).alloc (.cells #[.int .i64 0] 3)).heap.size by rw [alloc_size, alloc_size, hk]]
    exact heap_alloc_new _ _
  have hs3 : W3.heap.size = k + 3 := by rw [← hW3, alloc_size, alloc_size, alloc_size, hk]
  have hb3 : Below k w2 W3 := by
    rw [← hW3, ← hk]
    exact (((Below.refl _ _).alloc (Nat.le_refl _) _).alloc (by rw [alloc_size]; omega) _).alloc (by rw [alloc_size, alloc_size]; omega) _
  obtain ⟨W4, hW4⟩ : ∃ W4, W3.setCell ⟨k, 0, none⟩ (.func (.func 49) #[] #[.pointer (some ⟨w.heap.size + 1, 0, none⟩)]) = W4 := ⟨_, rfl⟩
  obtain ⟨W5, hW5⟩ : ∃ W5, W4.setCell ⟨k + 1, 0, none⟩ (.int .i64 (n : Int)) = W5 := ⟨_, rfl⟩
  obtain ⟨W6, hW6⟩ : ∃ W6, W5.setCell ⟨k + 1 + 1, 0, none⟩ (.int .i64 (p : Int)) = W6 := ⟨_, rfl⟩
  have c35 : W3.cell? ⟨k, 0, none⟩ = some .nilFunc ∧ W3.frozen? ⟨k, 0, none⟩ = false := ⟨by rw [cell_of_row _ _ 0 _ _ _ hh5]; rfl, frozen_of_row _ _ _ _ _ hh5⟩
  obtain ⟨c35a, c35b⟩ := c35
  have hh56 : W4.heap[k + 1]? = some (.cells #[.int .i64 0] 3 (0, 0)) := by rw [← hW4, heap_setCell_other _ _ _ _ (by simp), hh6]
  have hh57 : W4.heap[k + 1 + 1]? = some (.cells #[.int .i64 0] 3 (0, 0)) := by rw [← hW4, heap_setCell_other _ _ _ _ (by simp; omega), hh7]
  have hh55 : W4.heap[k]? = some (.cells #[.func (.func 49) #[] #[.pointer (some ⟨w.heap.size + 1, 0, none⟩)]] 52 (0, 0)) := by rw [← hW4, heap_setCell_same _ _ _ _ _ _ hh5]; rfl
  have c46a : W4.cell? ⟨k + 1, 0, none⟩ = some (.int .i64 0) := by rw [cell_of_row _ _ 0 _ _ _ hh56]; rfl
  have c46b : W4.frozen? ⟨k + 1, 0, none⟩ = false := frozen_of_row _ _ _ _ _ hh56
  have hh67 : W5.heap[k + 1 + 1]? = some (.cells #[.int .i64 0] 3 (0, 0)) := by rw [← hW5, heap_setCell_other _ _ _ _ (by simp), hh57]
  have hh65 := (heap_setCell_other W4 ⟨k + 1, 0, none⟩ k (.int .i64 (n : Int)) (by simp)).trans hh55
  rw [hW5] at hh65
  have hh66 : W5.heap[k + 1]? = some (.cells #[.int .i64 (n : Int)] 3 (0, 0)) := by rw [← hW5, heap_setCell_same _ _ _ _ _ _ hh56]; rfl
  have c57a : W5.cell? ⟨k + 1 + 1, 0, none⟩ = some (.int .i64 0) := by rw [cell_of_row _ _ 0 _ _ _ hh67]; rfl
  have c57b : W5.frozen? ⟨k + 1 + 1, 0, none⟩ = false := frozen_of_row _ _ _ _ _ hh67
  have hh75 := (heap_setCell_other W5 ⟨k + 1 + 1, 0, none⟩ k (.int .i64 (p : Int)) (by simp; omega)).trans hh65
  rw [hW6] at hh75
  have hh76 := (heap_setCell_other W5 ⟨k + 1 + 1, 0, none⟩ (k + 1) (.int .i64 (p : Int)) (by simp)).trans hh66
  rw [hW6] at hh76
  have hh77 : W6.heap[k + 1 + 1]? = some (.cells #[.int .i64 (p : Int)] 3 (0, 0)) := by rw [← hW6, heap_setCell_same _ _ _ _ _ _ hh67]; rfl
  have hs6 : W6.heap.size = k + 3 := by rw [← hW6, ← hW5, ← hW4]; simp [World.setCell, hs3]
  have HB6 : Hid (Below k w2 W6) := Lib.hid (by
    rw [← hW6, ← hW5, ← hW4]
    exact ((hb3.setCell (p := ⟨k, 0, none⟩) (Nat.le_refl _) _).setCell (p := ⟨k + 1, 0, none⟩) (by show k ≤ k + 1; omega) _).setCell (p := ⟨k + 1 + 1, 0, none⟩) (by show k ≤ k + 1 + 1; omega) _)
  obtain ⟨W7, hW7⟩ : ∃ W7, W6.alloc (.cells #[.nilFunc] 44) = W7 := ⟨_, rfl⟩
  obtain ⟨W8, hW8⟩ : ∃ W8, W7.setCell ⟨k + 3, 0, none⟩ (.func (.func 52) #[] #[.pointer (some ⟨w.heap.size, 0, none⟩), .pointer (some ⟨k + 1, 0, none⟩), .pointer (some ⟨k + 1 + 1, 0, none⟩)]) = W8 := ⟨_, rfl⟩
  have hh88 : W7.heap[k + 3]? = some (.cells #[.nilFunc] 44 (0, 0)) := by rw [← hW7, ← hs6]; exact heap_alloc_new _ _
  have c8a : W7.cell? ⟨k + 3, 0, none⟩ = some .nilFunc := by rw [cell_of_row _ _ 0 _ _ _ hh88]; rfl
  have c8b : W7.frozen? ⟨k + 3, 0, none⟩ = false := frozen_of_row _ _ _ _ _ hh88
  have HB8 : Hid (Below (k + 3) W6 W8) := Lib.hid (by
    rw [← hW8, ← hW7]
    exact ((Below.refl _ _).alloc (by rw [hs6]; exact Nat.le_refl _) _).setCell (p := ⟨k + 3, 0, none⟩) (Nat.le_refl _) _)
  have HC8 : Hid (W8.cell? ⟨k + 3, 0, none⟩ = some (rowV w.heap.size (k + 1) (k + 1 + 1))) := Lib.hid (by
    rw [← hW8, cell_of_row _ _ 0 _ _ _ (heap_setCell_same _ _ _ _ _ _ hh88)]
    rfl)
  have g5 := HB8.out.cell (p := ⟨k, 0, none⟩) (by show k < k + 3; omega)
  have g6 := HB8.out.cell (p := ⟨k + 1, 0, none⟩) (by show k + 1 < k + 3; omega)
  have g7 := HB8.out.cell (p := ⟨k + 1 + 1, 0, none⟩) (by show k + 1 + 1 < k + 3; omega)
  rw [cell_of_row _ _ 0 _ _ _ hh75] at g5
  rw [cell_of_row _ _ 0 _ _ _ hh76] at g6
  rw [cell_of_row _ _ 0 _ _ _ hh77] at g7
  have HBA : Hid (Below k w2 W8) := Lib.hid (HB6.out.trans (HB8.out.mono (by omega)))
  have HF : Hid (Fol W8 s g n p w.heap.size k (k + 1) (k + 1 + 1) (k + 3) (w.heap.size + 1) L) := Lib.hid {
    c3 := (HBA.out.cell (p := ⟨w.heap.size, 0, none⟩) hwk).trans HC2.out
    c5 := g5
    c6 := g6
    c7 := g7
    c8 := HC8.out
    txt := by
      have := HT2.out.below HBA.out htk.1
      rwa [← HTB.out, HSZ.out] at this
    row := HR.out.below ((HB2.out.trans (HBA.out.mono (Nat.le_of_lt hwk)))) }
  have HBW : Hid (Below w.heap.size w W8) := Lib.hid (HB2.out.trans (HBA.out.mono (Nat.le_of_lt hwk)))
  clear hh5 hh6 hh7 hs3 hb3 hh56 hh57 hh55 hh67 hh65 hh66 hh75 hh76 hh77 hh88 g5 g6 g7 htk
  unfold atV
  go_wp2_with fail
  go_ret
  exact ⟨p, w.heap.size, k, k + 1, k + 1 + 1, k + 3, w.heap.size + 1, rfl, HF.out, HP.out, HBW.out⟩
/-- Places that stand in rows as they may are the sorted ones. -/
theorem sorted_iff {T : List UInt8} {n p : Nat} {P : List Nat} {L : List Int} (hT : T.length = n) (hp : PerP T n p) (hK : RkP n P L) (hl : P.length = n) :
    (∀ j, j + 1 < n → Follow T (rk L) p (n / p) (P.getD j 0) (P.getD (j + 1) 0)) ↔ IsSorted T P := by
  have hP : P.Perm (List.range T.length) := by rw [hT]; exact hK.perm hl
  rw [sorted_getD hP]
  by_cases h0 : n = 0
  · subst h0
    exact ⟨fun _ j k _ h => by omega, fun _ j h => by omega⟩
  · have hpp := hp.2 (by omega)
    have hc : T.length = p * (n / p) := by rw [hT, Nat.mul_div_cancel' (by rw [← hT]; exact hpp.2.1)]
    have hc0 : 0 < n / p := Nat.div_pos (Nat.le_of_dvd (by omega) (by rw [← hT]; exact hpp.2.1)) hpp.1
    have hR : Ranks T.length (fun j => P.getD j 0) (rk L) := by rw [hT]; exact hK.ranks hl
    constructor
    · intro h
      exact sorted_follow (f := fun j => P.getD j 0) hpp hc hc0 hR (fun j hj => h j (by omega))
    · intro h j hj
      exact follow_sorted (f := fun j => P.getD j 0) (by omega) hpp hc hc0 hR h j (by omega)
/-- Is a row that of the sorted places? -/
def SortsP (T : List UInt8) (zs : List Int) : Prop := ∃ P, IsSorted T P ∧ zs = toI P
set_option maxRecDepth 100000 in
set_option maxHeartbeats 4000000 in
theorem sorted_any (s : ByteArray) (v : Value) (zs : List Int) (r : Bool) (w : World) (hv : IsInts w v zs) (hz : zs.length ≤ 1000) (hs : s.size ≤ 1099511627776) (hr : r = true ↔ SortsP s.data.toList zs) :
    Calls Try.prog 24 #[.string s, v] w fun e w' => e = .returned (.bool r) ∧ Below w.heap.size w w' := by
  have HV := Lib.hid hv
  have hT := txt_len s
  obtain ⟨va, vc, rfl, _⟩ := hv
  by_cases hl : zs.length = s.size
  · have hne : ((zs.length : Int) != (s.size : Int)) = false := by rw [bne_eq_false_iff_eq]; omega
    have HRK := Lib.hid (ranked_any _ zs w HV.out hz)
    obtain ⟨n, hn⟩ : ∃ n, zs.length = n := ⟨_, rfl⟩
    have hsn : s.size = n := by omega
    rw [hsn] at hT
    have HT := Lib.hid hT
    have HN := Lib.hid hn
    have HFO := Lib.hid (fun g L W (hR : RowI W g L) => follower_any s g n L W hsn (by omega) hR)
    have he := fol_enters
    rw [hn] at hz HV hne HRK ⊢
    rw [hsn] at hne
    have HRR := Lib.hid hr
    clear hr hT hl hs hn
    go_enter Try.func24, Try.ntmps24
    go_wp2_with fail
    refine HRK.out.mono ?_
    rintro e w1 ⟨hrk, hb1⟩
    have HB1 := Lib.hid hb1
    clear hb1
    rcases hrk with ⟨rfl, hno⟩ | ⟨g, P, L, rfl, hgw, hR, hK, hPl, hzP⟩
    · obtain rfl : r = false := by
        cases r
        · rfl
        · obtain ⟨P, hP, hzz⟩ := HRR.out.1 rfl
          exact absurd ⟨P, by have := hP.1; rw [HT.out] at this; exact this, hzz⟩ hno
      clear hno
      go_wp2_with fail
      go_ret
      exact ⟨rfl, HB1.out⟩
    · have HK := Lib.hid hK
      have HPL := Lib.hid hPl
      have HZP := Lib.hid hzP
      have HFR := Lib.hid (HFO.out g L w1 hR)
      clear hR hK hPl hzP hgw
      go_wp2_with fail
      refine HFR.out.mono ?_
      rintro e w2 ⟨p, b3, b5, b6, b7, b8, tb, rfl, hF, hpp, hb2⟩
      have HB2 := Lib.hid (HB1.out.trans (hb2.mono HB1.out.size))
      have HF := Lib.hid hF
      have HS := Lib.hid (sorted_iff HT.out hpp HK.out HPL.out)
      have HPP := Lib.hid hpp
      have HV2 := Lib.hid (HV.out.below HB2.out)
      clear hF hpp hb2
      unfold folV
      go_wp2_with fail
      go_loopw [8] (fun vj wr => ∃ j m : Nat, vj = .int .i64 (j : Int) ∧ 1 ≤ j ∧ j ≤ n + 1 ∧ Hid (∀ i, i + 1 < j → i + 1 < n → Follow s.data.toList (rk L) p (n / p) (P.getD i 0) (P.getD (i + 1) 0)) ∧ wr = w2.drewN m) (fun vj _ => n + 1 - (intOf vj).toNat)
      case atStart => exact ⟨1, 0, rfl, by omega, by omega, Lib.hid (fun i h => by omega), rfl⟩
      case round =>
        obtain ⟨j, m, rfl, hj1, hjn, hall, rfl⟩ := hrel
        by_cases hlt : j < n
        · have hli : (j : Int) < (n : Int) := by omega
          obtain ⟨i, hij⟩ : ∃ i, j = i + 1 := ⟨j - 1, by omega⟩
          have hPi : P.getD i 0 < n := perm_getD (HK.out.perm HPL.out) (by omega)
          have hPj : P.getD j 0 < n := perm_getD (HK.out.perm HPL.out) (by omega)
          obtain ⟨b1, o1, k1, he1, c1⟩ := HV2.out.cell (show i < zs.length by rw [HN.out]; omega)
          obtain ⟨b2, o2, k2, he2, c2⟩ := HV2.out.cell (show j < zs.length by rw [HN.out]; omega)
          rw [HN.out] at he1 he2
          simp only [Value.slice.injEq] at he1 he2
          obtain ⟨hva, _, rfl⟩ := he1
          subst hva
          obtain ⟨he2, _, _⟩ := he2
          simp only [Option.some.injEq, Addr.mk.injEq] at he2
          obtain ⟨rfl, rfl, _⟩ := he2
          rw [HZP.out, toI_getD] at c1 c2
          have hpos := HPP.out.2 (by omega)
          have hple : p ≤ n := Nat.le_of_dvd (by omega) (by rw [← HT.out]; exact hpos.2.1)
          have HFA := Lib.hid (fun rr m2 hrr => fol_any s g n p b3 b5 b6 b7 b8 tb (P.getD i 0) (P.getD j 0) L rr (w2.drewN m2) (HF.out.drewN m2) hsn (by omega) hpos.1 hple HK.out.2.2.1 (fun q hq => HK.out.in HPL.out hq) hPi hPj hrr)
          have HAL := Lib.hid (fun (h : Follow s.data.toList (rk L) p (n / p) (P.getD i 0) (P.getD j 0)) (q : Nat) (hq : q + 1 < j + 1) (hqn : q + 1 < n) => (by
            rcases Nat.lt_or_ge (q + 1) j with h1 | h1
            · exact hall.out q h1 hqn
            · obtain rfl : q = i := by omega
              rw [← hij]
              exact h : Follow s.data.toList (rk L) p (n / p) (P.getD q 0) (P.getD (q + 1) 0)))
          have hj1i : (j : Int) - 1 = (i : Int) := by omega
          have hj0 : (0 : Int) ≤ (j : Int) := by omega
          have hii : (i : Int) < (n : Int) := by omega
          have hi0 : (0 : Int) ≤ (i : Int) := by omega
          have hwi : IntKind.i64.wrap (i : Int) = (i : Int) := IntWalk.i64_in _ (by omega)
          have HNS := Lib.hid (fun (h : ¬ Follow s.data.toList (rk L) p (n / p) (P.getD i 0) (P.getD j 0)) => (by
            cases r
            · rfl
            · obtain ⟨Q, hQ, hzz⟩ := HRR.out.1 rfl
              have e : P = Q := toI_inj.1 (HZP.out.symm.trans hzz)
              subst e
              exact absurd (by have h5 := HS.out.2 hQ i (by omega); rw [← hij] at h5; exact h5) h : r = false))
          obtain ⟨x, hx⟩ : ∃ x, P.getD i 0 = x := ⟨_, rfl⟩
          obtain ⟨y, hy⟩ : ∃ y, P.getD j 0 = y := ⟨_, rfl⟩
          rw [hx] at c1 HFA HAL HNS
          rw [hy] at c2 HFA HAL HNS
          clear hall hx hy hpos hij
          by_cases hfo : Follow s.data.toList (rk L) p (n / p) x y
          · have HC := Lib.hid (fun m2 => HFA.out true m2 ⟨fun _ => hfo, fun _ => rfl⟩)
            have HAL2 := Lib.hid (HAL.out hfo)
            clear hfo
            go_wp2_with fail
            go_quiet ((exact quiet_more (HC.out _)))
            go_wp2_with fail
            go_roundw
            case rel => exact ⟨j + 1, _, by go_num, by omega, by omega, HAL2, rfl⟩
            case measure => simp [intOf]; omega
          · have HC := Lib.hid (fun m2 => HFA.out false m2 ⟨fun e => (by cases e), fun e => absurd e hfo⟩)
            obtain rfl : r = false := HNS.out hfo
            clear hfo
            go_wp2_with fail
            go_quiet ((exact quiet_more (HC.out _)))
            go_wp2_with fail
            go_ret
            exact ⟨rfl, HB2.out.trans ⟨rfl, rfl, rfl, Nat.le_refl _, fun _ _ => rfl⟩⟩
        · have hli : ¬ (j : Int) < (n : Int) := by omega
          obtain rfl : r = true := HRR.out.2 ⟨P, HS.out.1 (fun i hi => hall.out i (by omega) hi), HZP.out⟩
          go_wp2_with fail
          go_ret
          exact ⟨rfl, HB2.out.trans ⟨rfl, rfl, rfl, Nat.le_refl _, fun _ _ => rfl⟩⟩
  · have hne : ((zs.length : Int) != (s.size : Int)) = true := by rw [bne_iff_ne]; omega
    obtain rfl : r = false := by
      cases r
      · rfl
      · obtain ⟨P, hP, rfl⟩ := hr.1 rfl
        exact absurd (by rw [toI_length, perm_len hP.1, hT]) hl
    clear hr hl
    go_enter Try.func24, Try.ntmps24
    go_wp2_with fail
    go_ret
    exact ⟨rfl, Below.refl _ _⟩
end Go.Proofs.Ythkiaddmgggbpaa

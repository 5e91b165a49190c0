/-
  LAYER 19's CODE (package split): Put.
-/
import Derived.Test.YtnachbjhhpnadaaGreatDoorSplD
namespace Go.Proofs.YtnachbjhhpnadaaGreatDoor
open Go.RowKit RleM SplM
set_option linter.unusedVariables false
set_option linter.unusedSimpArgs false
theorem SumT.not {w : World} {b : Nat} {X : BitVec 32} {tp : Option Nat} (h : SumT w b X tp) {r : Nat} {Z : Array Value} {T : TypeId} (hz : w.heap[r]? = some (.cells Z T (0, 0))) (h0 : ∀ v, Z[0]? ≠ some (.int .u32 v)) : ∀ k, tp = some k → k ≠ r := fun k hk e => by
  rw [hk] at h
  have hc := h.2.1 0 (by omega)
  rw [e, cell_of_row _ _ _ _ _ _ hz] at hc
  exact h0 _ hc
theorem blk0_str (v : Int) : blk0[0]? ≠ some (.int .u32 v) := by simp [blk0]
theorem blkV_str (blk : List Pc) (v : Int) : (blkV blk)[0]? ≠ some (.int .u32 v) := by simp [blkV]
section
variable {B t pb sb room : Nat} {w w' wq w4 : World} {c c0 : UInt8} {n n0 : Nat} {blk blk1 : List Pc} {bv : Value} {tp : Option Nat}
/-- A block that the call laid ahead of it is stored. -/
theorem TakP.stored (hk : TakP B wq w4 t pb sb room c n blk bv) (h : IsSp B w t pb sb room c0 n0 blk1 bv tp) (hb : Below w.heap.size w wq) {r : Nat} (h1 : w.heap.size ≤ r) (h2 : r < wq.heap.size) {Z : Array Value} {T : TypeId} (hz : w4.heap[r]? = some (.cells Z T (0, 0))) (h0 : ∀ v, Z[0]? ≠ some (.int .u32 v)) (A : Array Value) :
    TakP B w (w4.setRow r A) t pb sb room c n blk bv := by
  obtain ⟨bv', tp', k4, t4, o4⟩ := hk
  have t5 : Touch (· = r) w4 (w4.setRow r A) := ⟨rfl, rfl, rfl, by simp [World.setRow], fun j _ hj => setRow_other w4 _ j _ hj⟩
  have hs := hb.size
  refine ⟨bv', tp', k4.other t5 (fun x hx e => ?_) (fun k hk e => k4.sum.not hz h0 k hk e), ((Touch.ofBelow (S := ftP t pb sb bv) hb).trans t4 (fun i hi => Or.inl hi)).trans t5 (fun i hi => Or.inr (by omega)), fun k hk => (o4 k hk).imp id (fun e => Nat.le_trans hs e)⟩
  subst e
  rcases hx with e | e | e | e
  · have := h.lt; omega
  · have := h.pk.lt; omega
  · have := h.sum.lt.1; omega
  · rcases o4 _ e with e | e
    · have := h.row.lt _ e; omega
    · omega
theorem stake_any (ps : List Pc) (w : World) (h : IsSp B w t pb sb room c n blk bv tp) (hd : dec (pack ps) = (flat ps, 0)) (h1 : (pack ps).length ≤ 1000) (h2 : (pack blk).length ≤ 1000000) (h3 : (flat blk).length ≤ 1000000000000) (h4 : (flat ps).length ≤ 1000) (hr : room ≤ 1000000) :
    Calls Tryz.prog 266 #[.pointer (some ⟨t, 0, none⟩), .string ⟨(pack ps).toArray⟩] w fun e w' => e = .returned (.tuple #[.agg (if room < (pack blk).length + (pack ps).length then blkV blk else blk0), .bool (decide (room < (pack blk).length + (pack ps).length))]) ∧ TakP B w w' t pb sb room c n (if room < (pack blk).length + (pack ps).length then ps else blk ++ ps) bv := by
  by_cases hf : room < (pack blk).length + (pack ps).length
  · rw [if_pos hf, if_pos hf, decide_eq_true hf]
    exact stake_out ps w h hd h1 h2 h3 h4 hr hf
  · rw [if_neg hf, if_neg hf, decide_eq_false hf]
    exact stake_in ps w h hd h1 h2 h3 h4 hr (by omega)
set_option maxRecDepth 100000 in
set_option maxHeartbeats 4000000 in
theorem sput_any (x : UInt8) (ps : List Pc) (w : World) (h : IsSp B w t pb sb room c n blk bv tp) (hT : Sizes w) (hg : 2 < B) (h0 : n = 0 → c = 0) (hn : n ≤ 254) (hps : (pstep c n x).1 = pack ps) (hd : dec (pack ps) = (flat ps, 0)) (h1 : (pack ps).length ≤ 1000) (h2 : (pack blk).length ≤ 1000000) (h3 : (flat blk).length ≤ 1000000000000) (h4 : (flat ps).length ≤ 1000) (hr : room ≤ 1000000) :
    Calls Tryz.prog 243 #[.pointer (some ⟨t, 0, none⟩), .int .u8 (x.toNat : Int)] w fun e w' => e = .returned (.tuple #[.agg (if room < (pack blk).length + (pack ps).length then blkV blk else blk0), .bool (decide (room < (pack blk).length + (pack ps).length))]) ∧ TakP B w w' t pb sb room (pstep c n x).2.1 (pstep c n x).2.2 (if room < (pack blk).length + (pack ps).length then ps else blk ++ ps) bv := by
  have H := Lib.hid h
  have HT := Lib.hid hT
  have hpb : pb ≠ 2 := by have := h.base.2.1; omega
  have HPUT := Lib.hid (fun W (k : IsPacker W pb c n) (hT : Sizes W) => pput_any pb c n x W k hT hpb h0 hn)
  rw [hps] at HPUT
  obtain ⟨c', hc'⟩ : ∃ c', (pstep c n x).2.1 = c' := ⟨_, rfl⟩
  obtain ⟨n', hn'⟩ : ∃ n', (pstep c n x).2.2 = n' := ⟨_, rfl⟩
  rw [hc', hn'] at HPUT ⊢
  have HTK := Lib.hid (fun W (k : IsSp B W t pb sb room c' n' blk bv tp) => stake_any ps W k hd h1 h2 h3 h4 hr)
  obtain ⟨P, hP⟩ : ∃ P : ByteArray, (⟨(pack ps).toArray⟩ : ByteArray) = P := ⟨_, rfl⟩
  obtain ⟨A, hA⟩ : ∃ A, (if room < (pack blk).length + (pack ps).length then blkV blk else blk0) = A := ⟨_, rfl⟩
  obtain ⟨D, hD⟩ : ∃ D, decide (room < (pack blk).length + (pack ps).length) = D := ⟨_, rfl⟩
  obtain ⟨N, hN⟩ : ∃ N, (if room < (pack blk).length + (pack ps).length then ps else blk ++ ps) = N := ⟨_, rfl⟩
  have hA3 : A.size = 3 := by rw [← hA]; split <;> rfl
  have hAc : A.all (·.oneCell') = true := by
    rw [← hA]
    split
    · exact blkV_one blk
    · exact blk0_one
  rw [hP] at HPUT HTK
  rw [hA, hD, hN] at HTK
  rw [hA, hD, hN]
  have hi := info_blk A hA3
  have hold : blk0.size = A.size := by rw [hA3]; rfl
  have c1 := (h.below ((Below.refl w.heap.size w).alloc (Nat.le_refl _) (.cells #[.string ⟨#[]⟩, .int .u32 0, .int .i64 0] 265))).cells.2.1
  clear h hT hg h0 hn hps hd h1 h2 h3 h4 hr hc' hn' hP hA hD hN hpb
  go_enter Tryz.func243, Tryz.ntmps243
  go_wp2_with fail
  obtain ⟨wq, hwq⟩ : ∃ wq, w.alloc (.cells #[.string ⟨#[]⟩, .int .u32 0, .int .i64 0] 265) = wq := ⟨_, rfl⟩
  have hbq : Below w.heap.size w wq := by rw [← hwq]; exact (Below.refl _ _).alloc (Nat.le_refl _) _
  have hr0 : wq.heap[w.heap.size]? = some (.cells blk0 265 (0, 0)) := by rw [← hwq]; exact heap_alloc_new w _
  have K := Lib.hid (H.out.below hbq)
  have HBQ := Lib.hid hbq
  have HR0 := Lib.hid hr0
  have HTQ := Lib.hid (HT.out.below hbq HT.out.lt)
  rw [hwq]
  clear hwq hbq hr0 c1
  refine (HPUT.out _ K.out.pk HTQ.out).mono ?_
  rintro e w2 ⟨rfl, hp2, ht2⟩
  have K2 := Lib.hid (K.out.packed ht2 hp2)
  have hpl := K.out.pk.lt
  have hr2 := (ht2.block w.heap.size (Array.getElem?_eq_some_iff.1 HR0.out).1 (fun e => by have e2 : w.heap.size = pb := e; have := H.out.pk.lt; omega)).trans HR0.out
  have HR2 := Lib.hid hr2
  have HT2 := Lib.hid ht2
  clear hp2 ht2 hr2 hpl
  go_wp2_with fail
  refine (HTK.out _ K2.out).mono ?_
  rintro e w4 ⟨rfl, hk⟩
  have x0 : w4.heap[w.heap.size]? = some (.cells blk0 265 (0, 0)) := by
    obtain ⟨_, _, _, t4, _⟩ := hk
    refine (t4.block _ (Array.getElem?_eq_some_iff.1 HR2.out).1 (fun e => ?_)).trans HR2.out
    have := ftP_lt H.out e
    omega
  have HK : Hid (TakP B wq w4 t pb sb room c' n' N bv) := Lib.hid (by
    obtain ⟨bv', tp', k4, t4, o4⟩ := hk
    exact ⟨bv', tp', k4, (HT2.out.mono (T := ftP t pb sb bv) (fun i hi => Or.inr (Or.inl hi))).trans t4 (fun i hi => Or.inl hi), fun k hk => (o4 k hk).imp id (fun e => Nat.le_trans HT2.out.size e)⟩)
  have HR : Hid (TakP B w (w4.setRow w.heap.size A) t pb sb room c' n' N bv) := Lib.hid (HK.out.stored H.out HBQ.out (Nat.le_refl _) (Array.getElem?_eq_some_iff.1 HR0.out).1 x0 blk0_str A)
  clear hk
  go_wp2_with (refine wpList_store_row rfl 265 _ _ rfl w.heap.size A rfl rfl 265 blk0 x0 hi hold hAc ?_)
  refine bodyPost_ret (v := .tuple #[.agg A, .bool D]) (results_cell_slotP rfl _ _ w.heap.size A 265 _ _ rfl rfl (setRow_heap w4 _ blk0 A 265 _ x0) Tryz.underlying265 rfl hi) rfl ⟨rfl, HR.out⟩
end
end Go.Proofs.YtnachbjhhpnadaaGreatDoor

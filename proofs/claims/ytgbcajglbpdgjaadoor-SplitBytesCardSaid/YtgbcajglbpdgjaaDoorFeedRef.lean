/-
  THE WALKS OF THE DOCUMENT's ANSWERS OF LAYER 4 (balerref04): Sure.
-/
import Derived.Test.YtgbcajglbpdgjaaDoorFeedP
import Derived.Test.YtgbcajglbpdgjaaDoorRleRefB
namespace Go.Proofs.YtgbcajglbpdgjaaDoor
open Go.RowKit RleM
set_option linter.unusedVariables false
theorem idx_last (g len cap : Nat) (hl : 0 < len) (hm : len ≤ 1099511627776) (W : World) : (Instr.indexAt 56 (.slice (some ⟨g, 0, none⟩) len cap) (.int .i64 (IntKind.i64.wrap ((len : Int) - 1)))).run Tryd.prog W = .ok (.pointer (some ⟨g, (len - 1) * 2, none⟩)) W := by
  have hs : (sizeOf (Tryd.prog.elem 56)).run Tryd.prog W = .ok 2 W := by kernel_rfl
  have e : ((len : Int) - 1).toNat = len - 1 := by omega
  rw [IntWalk.i64_in _ (by omega), run_indexAt_slice W 56 _ _ _ .i64 _ (by kernel_rfl), if_pos (by omega), hs]
  show Result.ok (Value.pointer (some (Addr.add ⟨g, 0, none⟩ (((len : Int) - 1).toNat * 2)))) W = _
  rw [Addr.add_lit, Nat.zero_add, e]
theorem slice_init (g m len cap : Nat) (hm : m ≤ cap) (hl : len = m + 1) (hb : len ≤ 1099511627776) (W : World) : (Instr.slice 56 (.slice (some ⟨g, 0, none⟩) len cap) none (some (.int .i64 (IntKind.i64.wrap ((len : Int) - 1)))) none).run Tryd.prog W = .ok (.slice (some ⟨g, 0, none⟩) m cap) W := by
  have hs : (sizeOf (Tryd.prog.elem 56)).run Tryd.prog W = .ok 2 W := by kernel_rfl
  have e : ((len : Int) - 1).toNat = m := by omega
  rw [IntWalk.i64_in _ (by omega), run_slice_h W 56 (some ⟨g, 0, none⟩) len cap (by kernel_rfl) .i64 _ (by omega) (by omega), hs]
  simp [Result.andThen, sliced, e, Addr.add]
theorem own_cap {w : World} {B : Nat} {a : Option Addr} {n cap : Nat} {xs : List Value} (h : w.ownsRow B 44 2 (.slice a n cap) n xs) : n ≤ cap := by
  rcases h.2 with ⟨h1, h2⟩ | ⟨g, cap2, cur, h1, _, _, h2, _⟩
  · omega
  · simp only [Value.slice.injEq] at h1
    obtain ⟨_, _, rfl⟩ := h1
    exact h2
theorem flat_take_len (ps : List Pc) (k : Nat) : (flat (ps.take k)).length ≤ (flat ps).length := by
  conv => rhs; rw [← List.take_append_drop k ps]
  rw [flat_append, List.length_append]; omega
theorem IsPcs.shorter {w : World} {B : Nat} {a : Option Addr} {len cap : Nat} {ps qs : List Pc} (h : IsPcs w B (.slice a len cap) (ps ++ qs)) : IsPcs w B (.slice a ps.length cap) ps := by
  obtain ⟨a2, cap2, e, hc⟩ := h
  simp only [Value.slice.injEq] at e
  obtain ⟨rfl, _, rfl⟩ := e
  refine ⟨a, cap, rfl, fun k p hk => hc k p ?_⟩
  rw [List.getElem?_append_left (List.getElem?_eq_some_iff.1 hk).1]
  exact hk
set_option maxRecDepth 100000 in
set_option maxHeartbeats 4000000 in
theorem sure_any (s : ByteArray) (T : List UInt8) (c : UInt8) (n : Nat) (QS : List Pc) (w : World) (hs : s.size ≤ 1000000) (h : SureP s.data.toList T c n QS) :
    Calls Tryd.prog 17 #[.string s] w fun e w' => e = .returned (.tuple #[.string ⟨T.toArray⟩, .agg #[.int .u8 (c.toNat : Int), .int .i64 (n : Int)]]) ∧ Below w.heap.size w w' := by
  obtain ⟨h1, h2, h3, h4⟩ := h
  have hcnt := pieces_count s.data.toList
  have hz : s.data.toList.length = s.size := rfl
  obtain ⟨ps, hps⟩ : ∃ ps, pieces s.data.toList = ps := ⟨_, rfl⟩
  have hg := good s.data.toList
  rw [hps] at hcnt hg h1
  have hpl : ps.length ≤ 1000000 := by omega
  have HPS := Lib.hid hps
  have HG := Lib.hid hg
  have HT := Lib.hid h2
  have H1 := Lib.hid h1
  have H4 := Lib.hid h4
  clear hcnt hz hps hg h1 h2 h4
  go_enter Tryd.func17, Tryd.ntmps17
  go_wp2_with fail
  refine (refPieces_any s _ (by omega)).mono ?_
  rintro e w1 ⟨v1, rfl, hown1, hb1⟩
  rw [HPS.out] at hown1
  have hcapx := hown1
  have P1 := Lib.hid (pcs_of_own hown1)
  have hr1 := (hb1.block w.heap.size (by simp)).trans (heap_alloc_new w (.cells #[.int .u8 0, .int .i64 0] 44))
  have R1 := Lib.hid hr1
  have B1 := Lib.hid (((Below.refl w.heap.size w).alloc (Nat.le_refl _) (.cells #[.int .u8 0, .int .i64 0] 44)).trans (hb1.mono (by simp)))
  clear hown1 hb1 hr1
  obtain ⟨a1, cap1, rfl, hc1⟩ := P1.out
  have hcap := own_cap hcapx
  clear hcapx
  have HC1 := Lib.hid hc1
  clear hc1
  have hs1 := B1.out.size
  have HFL := Lib.hid (show (flat ps).length = s.size by rw [← HPS.out, flat_pieces]; rfl)
  by_cases hn : n = 0
  · subst hn
    obtain ⟨rfl, hq⟩ := H4.out rfl
    obtain rfl : ps = QS := by have := H1.out; rwa [if_pos rfl, List.append_nil] at this
    have HQL := Lib.hid hq
    have HGQ := HG
    have HFQ : Hid ((flat ps).length ≤ 1000000) := Lib.hid (by rw [HFL.out]; exact hs)
    clear hq
    have HPZ := Lib.hid (P1.out.later ((Below.refl _ w1).alloc (Nat.le_refl _) (.cells #[.int .u8 0, .int .i64 0] 44)))
    have RZ := Lib.hid ((Below.heap_alloc w1 (.cells #[.int .u8 0, .int .i64 0] 44) w.heap.size (Array.getElem?_eq_some_iff.1 R1.out).1).trans R1.out)
    have QZ := Lib.hid (heap_alloc_new w1 (.cells #[.int .u8 0, .int .i64 0] 44))
    have BZ := Lib.hid (B1.out.alloc hs1 (.cells #[.int .u8 0, .int .i64 0] 44))
    by_cases hl0 : 0 < ps.length
    · obtain ⟨p, hp⟩ : ∃ p, ps[ps.length - 1]? = some p := ⟨_, List.getElem?_eq_getElem (by omega)⟩
      have hp255 : p.2 = 255 := HQL.out p (by rw [List.getLast?_eq_getElem?]; exact hp)
      obtain ⟨g, rfl, _, hgl, c0, c1⟩ := HC1.out _ p hp
      rw [hp255] at c1
      have hix := idx_last g ps.length cap1 hl0 (by omega)
      have c1' : (w1.alloc (.cells #[.int .u8 0, .int .i64 0] 44)).cell? ⟨g, (ps.length - 1) * 2 + 1, none⟩ = some (.int .i64 255) := (World.cell?_alloc_lt _ _ ⟨g, (ps.length - 1) * 2 + 1, none⟩ hgl).trans c1
      clear hp hp255 c0 c1
      go_wp2_with fail
      clear hix c1'
      generalize w1.alloc (.cells #[.int .u8 0, .int .i64 0] 44) = wz at *
      have HPB := Lib.hid (show ∀ k, (pack (ps.take k)).length ≤ 2000000 from fun k => by
        have h1 := pack_small _ (good_left (ps := ps.take k) (qs := ps.drop k) (by rw [List.take_append_drop]; exact HGQ.out))
        have h2 := flat_take_len ps k
        have h3 := HFQ.out
        omega)
      go_loopw [6, 8, 38] (fun t _ i wr => ∃ k : Nat, k ≤ ps.length ∧ i = .int .i64 k ∧ t = .string ⟨(pack (ps.take k)).toArray⟩ ∧ Hid (Below wz.heap.size wz wr)) (fun _ _ i _ => ps.length - (intOf i).toNat)
      case atStart => exact ⟨0, by omega, rfl, rfl, Lib.hid (Below.refl _ _)⟩
      case round =>
        obtain ⟨k, hk, rfl, rfl, hB⟩ := hrel
        by_cases hlt : k < ps.length
        · obtain ⟨a2, cap2, hv2, hc2⟩ := HPZ.out.later hB.out
          obtain ⟨p, hp⟩ : ∃ p, ps[k]? = some p := ⟨_, List.getElem?_eq_getElem hlt⟩
          obtain ⟨g2, ha, hg1, hg2, c0, c1⟩ := hc2 k p hp
          simp only [Value.slice.injEq] at hv2
          obtain ⟨rfl, _, rfl⟩ := hv2
          obtain rfl : g = g2 := by simpa using ha
          have hgood := good_mem HGQ.out (List.mem_of_getElem? hp)
          have HTK := Lib.hid (pack_take hp)
          have hll := HPB.out k
          have hpl2 : (packP p).length ≤ 5 := by rw [packP_sz]; exact sz_le _
          have hsz : (⟨(pack (ps.take k)).toArray⟩ : ByteArray).size + (⟨(packP p).toArray⟩ : ByteArray).size ≤ 2199023255552 := by rw [text_size, text_size]; omega
          have hbs := hB.out.size
          obtain ⟨h2a, h2b⟩ := hgood
          clear hc2 hp h2a hll hpl2
          generalize pack (ps.take k) = R at *
          go_wp2_with fail
          refine (refPiece_any p _ h2b).mono ?_
          rintro e w2 ⟨rfl, hb2⟩
          have HB2 := Lib.hid ((hB.out.alloc hbs (.cells #[.int .u8 (p.1.toNat : Int), .int .i64 (p.2 : Int)] 44)).trans (hb2.mono (by simp; omega)))
          clear hb2
          go_wp2_with fail
          go_roundw
          case rel => exact ⟨k + 1, by omega, by go_num, by rw [HTK.out, ← text_append], HB2⟩
          case measure => simp [intOf]; omega
        · obtain rfl : k = ps.length := by omega
          have HF := Lib.hid (show pack (ps.take ps.length) = T by rw [List.take_of_length_le (Nat.le_refl _), HT.out])
          rw [HF.out]
          have hq := (hB.out.block w1.heap.size (Array.getElem?_eq_some_iff.1 QZ.out).1).trans QZ.out
          have hr := (hB.out.block w.heap.size (Array.getElem?_eq_some_iff.1 RZ.out).1).trans RZ.out
          have q0 : wr.cell? ⟨w1.heap.size, 0, none⟩ = some (.int .u8 0) := by rw [cell_of_row _ _ _ _ _ _ hq]; rfl
          have q1 : wr.cell? ⟨w1.heap.size, 1, none⟩ = some (.int .i64 0) := by rw [cell_of_row _ _ _ _ _ _ hq]; rfl
          have r0 : wr.cell? ⟨w.heap.size, 0, none⟩ = some (.int .u8 0) := by rw [cell_of_row _ _ _ _ _ _ hr]; rfl
          have r1 : wr.cell? ⟨w.heap.size, 1, none⟩ = some (.int .i64 0) := by rw [cell_of_row _ _ _ _ _ _ hr]; rfl
          have rf0 : wr.frozen? ⟨w.heap.size, 0, none⟩ = false := frozen_of_row _ _ _ _ _ hr
          have rf1 : wr.frozen? ⟨w.heap.size, 1, none⟩ = false := frozen_of_row _ _ _ _ _ hr
          have HBF := Lib.hid (BZ.out.trans (hB.out.mono BZ.out.size))
          clear hq hr
          go_wp2_with fail
          go_region
          all_goals
            go_wp2_with fail
            refine bodyPost_ret (v := .tuple #[.string ⟨T.toArray⟩, .agg #[.int .u8 0, .int .i64 0]]) (by simp [results, Tryd.results17, go_sem, r0, r1]) rfl ⟨rfl, ?_⟩
            exact ((HBF.out.setCell (p := ⟨w.heap.size, 0, none⟩) (Nat.le_refl _) _).setCell (p := ⟨w.heap.size, 1, none⟩) (Nat.le_refl _) _).drew
    · have hl1 : decide (0 < ps.length) = false := by simp only [decide_eq_false_iff_not]; exact hl0
      go_wp2_with fail
      clear hl1
      generalize w1.alloc (.cells #[.int .u8 0, .int .i64 0] 44) = wz at *
      have HPB := Lib.hid (show ∀ k, (pack (ps.take k)).length ≤ 2000000 from fun k => by
        have h1 := pack_small _ (good_left (ps := ps.take k) (qs := ps.drop k) (by rw [List.take_append_drop]; exact HGQ.out))
        have h2 := flat_take_len ps k
        have h3 := HFQ.out
        omega)
      go_loopw [6, 8, 38] (fun t _ i wr => ∃ k : Nat, k ≤ ps.length ∧ i = .int .i64 k ∧ t = .string ⟨(pack (ps.take k)).toArray⟩ ∧ Hid (Below wz.heap.size wz wr)) (fun _ _ i _ => ps.length - (intOf i).toNat)
      case atStart => exact ⟨0, by omega, rfl, rfl, Lib.hid (Below.refl _ _)⟩
      case round =>
        obtain ⟨k, hk, rfl, rfl, hB⟩ := hrel
        by_cases hlt : k < ps.length
        · exact absurd hlt (by omega)
        · obtain rfl : k = ps.length := by omega
          have HF := Lib.hid (show pack (ps.take ps.length) = T by rw [List.take_of_length_le (Nat.le_refl _), HT.out])
          rw [HF.out]
          have hq := (hB.out.block w1.heap.size (Array.getElem?_eq_some_iff.1 QZ.out).1).trans QZ.out
          have hr := (hB.out.block w.heap.size (Array.getElem?_eq_some_iff.1 RZ.out).1).trans RZ.out
          have q0 : wr.cell? ⟨w1.heap.size, 0, none⟩ = some (.int .u8 0) := by rw [cell_of_row _ _ _ _ _ _ hq]; rfl
          have q1 : wr.cell? ⟨w1.heap.size, 1, none⟩ = some (.int .i64 0) := by rw [cell_of_row _ _ _ _ _ _ hq]; rfl
          have r0 : wr.cell? ⟨w.heap.size, 0, none⟩ = some (.int .u8 0) := by rw [cell_of_row _ _ _ _ _ _ hr]; rfl
          have r1 : wr.cell? ⟨w.heap.size, 1, none⟩ = some (.int .i64 0) := by rw [cell_of_row _ _ _ _ _ _ hr]; rfl
          have rf0 : wr.frozen? ⟨w.heap.size, 0, none⟩ = false := frozen_of_row _ _ _ _ _ hr
          have rf1 : wr.frozen? ⟨w.heap.size, 1, none⟩ = false := frozen_of_row _ _ _ _ _ hr
          have HBF := Lib.hid (BZ.out.trans (hB.out.mono BZ.out.size))
          clear hq hr
          go_wp2_with fail
          go_region
          all_goals
            go_wp2_with fail
            refine bodyPost_ret (v := .tuple #[.string ⟨T.toArray⟩, .agg #[.int .u8 0, .int .i64 0]]) (by simp [results, Tryd.results17, go_sem, r0, r1]) rfl ⟨rfl, ?_⟩
            exact ((HBF.out.setCell (p := ⟨w.heap.size, 0, none⟩) (Nat.le_refl _) _).setCell (p := ⟨w.heap.size, 1, none⟩) (Nat.le_refl _) _).drew
  · have hps2 : ps = QS ++ [(c, n)] := by have := H1.out; rwa [if_neg hn] at this
    have hlen : ps.length = QS.length + 1 := by rw [hps2]; simp
    have hp : ps[ps.length - 1]? = some (c, n) := by rw [hlen, hps2]; simp
    obtain ⟨g, rfl, _, hgl, c0, c1⟩ := HC1.out _ _ hp
    have hix := idx_last g ps.length cap1 (by omega) (by omega)
    have hsl := slice_init g QS.length ps.length cap1 (by omega) hlen (by omega)
    have c0' : (w1.alloc (.cells #[.int .u8 0, .int .i64 0] 44)).cell? ⟨g, (ps.length - 1) * 2, none⟩ = some (.int .u8 (c.toNat : Int)) := (World.cell?_alloc_lt _ _ ⟨g, (ps.length - 1) * 2, none⟩ hgl).trans c0
    have c1' : (w1.alloc (.cells #[.int .u8 0, .int .i64 0] 44)).cell? ⟨g, (ps.length - 1) * 2 + 1, none⟩ = some (.int .i64 (n : Int)) := (World.cell?_alloc_lt _ _ ⟨g, (ps.length - 1) * 2 + 1, none⟩ hgl).trans c1
    have hl0 : 0 < ps.length := by omega
    have hn255 : (n : Int) < 255 := by omega
    have HGQ := Lib.hid (good_left (ps := QS) (qs := [(c, n)]) (by rw [← hps2]; exact HG.out))
    have HFQ : Hid ((flat QS).length ≤ 1000000) := Lib.hid (by have := HFL.out; rw [hps2, flat_append, List.length_append] at this; omega)
    have HPZ := Lib.hid (IsPcs.shorter (ps := QS) (qs := [(c, n)]) (by
      have h := P1.out.later ((Below.refl _ w1).alloc (Nat.le_refl _) (.cells #[.int .u8 (c.toNat : Int), .int .i64 (n : Int)] 44))
      rw [← hps2]
      exact h))
    have RZ := Lib.hid ((Below.heap_alloc w1 (.cells #[.int .u8 (c.toNat : Int), .int .i64 (n : Int)] 44) w.heap.size (Array.getElem?_eq_some_iff.1 R1.out).1).trans R1.out)
    have QZ := Lib.hid (heap_alloc_new w1 (.cells #[.int .u8 (c.toNat : Int), .int .i64 (n : Int)] 44))
    have BZ := Lib.hid (B1.out.alloc hs1 (.cells #[.int .u8 (c.toNat : Int), .int .i64 (n : Int)] 44))
    have HQM : QS.length ≤ 1000000 := by omega
    have HLEN := Lib.hid hlen
    clear hps2 hlen hp c0 c1
    go_wp2_with fail
    clear hix hsl c0' c1'
    have hq1 : ps.length - 1 = QS.length := by have := HLEN.out; omega
    rw [hq1]
    clear hq1
    generalize w1.alloc (.cells #[.int .u8 (c.toNat : Int), .int .i64 (n : Int)] 44) = wz at *
    have HPB := Lib.hid (show ∀ k, (pack (QS.take k)).length ≤ 2000000 from fun k => by
      have h1 := pack_small _ (good_left (ps := QS.take k) (qs := QS.drop k) (by rw [List.take_append_drop]; exact HGQ.out))
      have h2 := flat_take_len QS k
      have h3 := HFQ.out
      omega)
    go_loopw [6, 8, 38] (fun t _ i wr => ∃ k : Nat, k ≤ QS.length ∧ i = .int .i64 k ∧ t = .string ⟨(pack (QS.take k)).toArray⟩ ∧ Hid (Below wz.heap.size wz wr)) (fun _ _ i _ => QS.length - (intOf i).toNat)
    case atStart => exact ⟨0, by omega, rfl, rfl, Lib.hid (Below.refl _ _)⟩
    case round =>
      obtain ⟨k, hk, rfl, rfl, hB⟩ := hrel
      by_cases hlt : k < QS.length
      · obtain ⟨a2, cap2, hv2, hc2⟩ := HPZ.out.later hB.out
        obtain ⟨p, hp⟩ : ∃ p, QS[k]? = some p := ⟨_, List.getElem?_eq_getElem hlt⟩
        obtain ⟨g2, ha, hg1, hg2, c0, c1⟩ := hc2 k p hp
        simp only [Value.slice.injEq] at hv2
        obtain ⟨rfl, _, rfl⟩ := hv2
        obtain rfl : g = g2 := by simpa using ha
        have hgood := good_mem HGQ.out (List.mem_of_getElem? hp)
        have HTK := Lib.hid (pack_take hp)
        have hll := HPB.out k
        have hpl2 : (packP p).length ≤ 5 := by rw [packP_sz]; exact sz_le _
        have hsz : (⟨(pack (QS.take k)).toArray⟩ : ByteArray).size + (⟨(packP p).toArray⟩ : ByteArray).size ≤ 2199023255552 := by rw [text_size, text_size]; omega
        have hbs := hB.out.size
        obtain ⟨h2a, h2b⟩ := hgood
        clear hc2 hp h2a hll hpl2
        generalize pack (QS.take k) = R at *
        go_wp2_with fail
        refine (refPiece_any p _ h2b).mono ?_
        rintro e w2 ⟨rfl, hb2⟩
        have HB2 := Lib.hid ((hB.out.alloc hbs (.cells #[.int .u8 (p.1.toNat : Int), .int .i64 (p.2 : Int)] 44)).trans (hb2.mono (by simp; omega)))
        clear hb2
        go_wp2_with fail
        go_roundw
        case rel => exact ⟨k + 1, by omega, by go_num, by rw [HTK.out, ← text_append], HB2⟩
        case measure => simp [intOf]; omega
      · obtain rfl : k = QS.length := by omega
        have HF := Lib.hid (show pack (QS.take QS.length) = T by rw [List.take_of_length_le (Nat.le_refl _), HT.out])
        rw [HF.out]
        have hq := (hB.out.block w1.heap.size (Array.getElem?_eq_some_iff.1 QZ.out).1).trans QZ.out
        have hr := (hB.out.block w.heap.size (Array.getElem?_eq_some_iff.1 RZ.out).1).trans RZ.out
        have q0 : wr.cell? ⟨w1.heap.size, 0, none⟩ = some (.int .u8 (c.toNat : Int)) := by rw [cell_of_row _ _ _ _ _ _ hq]; rfl
        have q1 : wr.cell? ⟨w1.heap.size, 1, none⟩ = some (.int .i64 (n : Int)) := by rw [cell_of_row _ _ _ _ _ _ hq]; rfl
        have r0 : wr.cell? ⟨w.heap.size, 0, none⟩ = some (.int .u8 0) := by rw [cell_of_row _ _ _ _ _ _ hr]; rfl
        have r1 : wr.cell? ⟨w.heap.size, 1, none⟩ = some (.int .i64 0) := by rw [cell_of_row _ _ _ _ _ _ hr]; rfl
        have rf0 : wr.frozen? ⟨w.heap.size, 0, none⟩ = false := frozen_of_row _ _ _ _ _ hr
        have rf1 : wr.frozen? ⟨w.heap.size, 1, none⟩ = false := frozen_of_row _ _ _ _ _ hr
        have HBF := Lib.hid (BZ.out.trans (hB.out.mono BZ.out.size))
        clear hq hr
        go_wp2_with fail
        go_region
        all_goals
          go_wp2_with fail
          refine bodyPost_ret (v := .tuple #[.string ⟨T.toArray⟩, .agg #[.int .u8 (c.toNat : Int), .int .i64 (n : Int)]]) (by simp [results, Tryd.results17, go_sem, r0, r1]) rfl ⟨rfl, ?_⟩
          exact ((HBF.out.setCell (p := ⟨w.heap.size, 0, none⟩) (Nat.le_refl _) _).setCell (p := ⟨w.heap.size, 1, none⟩) (Nat.le_refl _) _).drew
end Go.Proofs.YtgbcajglbpdgjaaDoor

/-
  THE WALKS OF THE DOCUMENT's ANSWERS OF LAYER 3 (balerref03).
-/
import Derived.Test.YtnachbjhhpnadaaGreatDoorRleC
namespace Go.Proofs.YtnachbjhhpnadaaGreatDoor
open Go.RowKit RleM
set_option linter.unusedVariables false
set_option maxRecDepth 100000 in
set_option maxHeartbeats 1000000 in
theorem refPieces_any (s : ByteArray) (w : World) (hs : s.size ≤ 549755813888) :
    Calls Tryz.prog 81 #[.string s] w fun e w' => ∃ v, e = .returned v ∧ w'.ownsRow w.heap.size 116 2 v (pieces s.data.toList).length ((pieces s.data.toList).flatMap pcCells) ∧ Below w.heap.size w w' := by
  obtain ⟨i0, hi, hz0, hz1, hz2⟩ := info_parts infoPiece
  have HI := Lib.hid hi
  have HZ0 := Lib.hid hz0
  have HZ1 := Lib.hid hz1
  have HZ2 := Lib.hid hz2
  have HCnt := Lib.hid (pieces_count s.data.toList)
  have HZ := Lib.hid (show s.data.toList.length = s.size from rfl)
  clear hi hz0 hz1 hz2
  go_enter Tryz.func81, Tryz.ntmps81
  go_wp2_with fail
  go_loopw [0, 3, 4] (fun t v _ wr => ∃ (u : ByteArray) (ps : List Pc), t = .string u ∧ u.size ≤ s.size ∧ Hid (pieces s.data.toList = ps ++ pieces u.data.toList) ∧ Hid (wr.ownsRow w.heap.size 116 2 v ps.length (ps.flatMap pcCells)) ∧ Hid (Below w.heap.size w wr)) (fun t _ _ _ => vsize t)
  case atStart => exact ⟨s, [], rfl, Nat.le_refl _, Lib.hid rfl, Lib.hid (World.ownsRow_nil _ _ _ _), Lib.hid (Below.refl _ _)⟩
  case round =>
    obtain ⟨u, ps, rfl, hu, hps, hO, hB⟩ := hrel
    by_cases h0 : 0 < u.size
    · obtain ⟨c, l, hL⟩ := text_cons h0
      have hc : u[0] = c := by have := byte_at hL h0; simpa using this.symm
      have HL := Lib.hid hL
      have HC := Lib.hid hc
      have hr1 : 1 ≤ row u.data.toList := by rw [hL]; exact row_pos c l
      have hr2 : row u.data.toList ≤ u.size := row_le _
      have hr3 : row u.data.toList ≤ 255 := row_255 _
      have hpn : ps.length ≤ s.size := by have h1 := HCnt.out; have h2 := HZ.out; rw [hps.out, List.length_append] at h1; omega
      have hbs := hB.out.size
      clear hL hc
      go_wp2_with fail
      refine (refRow_any u wr h0 (by unfold maxLen; omega)).mono ?_
      rintro e w' ⟨rfl, m, rfl⟩
      generalize hR : row u.data.toList = R at *
      have HR := Lib.hid hR
      have HOm := Lib.hid (show (wr.drewN m).ownsRow w.heap.size 116 2 _ ps.length (ps.flatMap pcCells) from hO.out)
      have HBm := Lib.hid (hB.out.trans (show Below w.heap.size wr (wr.drewN m) from ⟨rfl, rfl, rfl, Nat.le_refl _, fun _ _ => rfl⟩))
      clear hR hO hB
      go_wp2_with (at_builtin; refine wpList_append_own _ rfl _ _ 113 rfl w.heap.size 116 i0 (.agg #[.int .u8 0, .int .i64 0]) 2 16 Tryz.underlying113 HI.out HZ0.out HZ1.out HZ2.out rfl (by decide) _ _ _ rfl (HOm.out.alloc _) ⟨wr.heap.size, 0, none⟩ 1 1 [.int .u8 (u[0].toNat : Int), .int .i64 (R : Int)] rfl rfl ?c1 ?c2 ?c3 ?c4 ?c5 ?_)
      case c1 => exact news_new _ _ _ _ rfl
      case c2 => intro x hx; simp at hx; rcases hx with rfl | rfl <;> rfl
      case c3 => unfold maxLen; omega
      case c4 => omega
      case c5 => simp; omega
      intro v' w1 hown' hgrow _
      obtain ⟨a', c', rfl⟩ := slice_of_own hown'
      have HO1 := Lib.hid hown'
      have HB1 := Lib.hid (Below.grown (HBm.out.alloc (by simp; omega) _) hgrow (by simp; omega) (fun j hj => (HOm.out.lt j hj).1))
      clear hown' hgrow
      go_wp2_with fail
      go_roundw
      case rel =>
        refine ⟨_, ps ++ [(u[0], R)], rfl, by simp [ByteArray.size_extract]; omega, Lib.hid (by rw [hps.out, ext_data, HL.out, pieces_cons, ← HL.out, HR.out, HC.out]; simp), Lib.hid ?_, HB1⟩
        have h := HO1.out
        have e : (ps ++ [(u[0], R)]).flatMap pcCells = ps.flatMap pcCells ++ [.int .u8 (u[0].toNat : Int), .int .i64 (R : Int)] := by simp [pcCells]
        rw [e, List.length_append]
        exact h
      case measure => simp [vsize, ByteArray.size_extract]; omega
    · have hz : u.size = 0 := by omega
      have hnil : u.data.toList = [] := List.eq_nil_of_length_eq_zero hz
      have HN := Lib.hid hnil
      obtain ⟨a', c', hv⟩ := slice_of_own hO.out
      clear hz hnil
      go_wp2_with fail
      go_ret
      rw [hps.out, HN.out, pieces_nil, List.append_nil]
      exact ⟨_, rfl, hO.out, hB.out⟩
/-- A ROW OF PIECES, AS A WALK READS IT. -/
def IsPcs (w : World) (B : Nat) (v : Value) (ps : List Pc) : Prop :=
  ∃ (a : Option Addr) (cap : Nat), v = .slice a ps.length cap ∧ ∀ k p, ps[k]? = some p → ∃ g, a = some ⟨g, 0, none⟩ ∧ B ≤ g ∧ g < w.heap.size ∧ w.cell? ⟨g, k * 2, none⟩ = some (.int .u8 (p.1.toNat : Int)) ∧ w.cell? ⟨g, k * 2 + 1, none⟩ = some (.int .i64 (p.2 : Int))
theorem flat_cells : ∀ (ps : List Pc) (k : Nat) (p : Pc), ps[k]? = some p → (ps.flatMap pcCells)[k * 2]? = some (.int .u8 (p.1.toNat : Int)) ∧ (ps.flatMap pcCells)[k * 2 + 1]? = some (.int .i64 (p.2 : Int))
  | [], k, p, h => by simp at h
  | q :: ps, 0, p, h => by
    have : q = p := by simpa using h
    subst this
    exact ⟨rfl, rfl⟩
  | q :: ps, k + 1, p, h => by
    have ih := flat_cells ps k p (by simpa using h)
    rw [List.flatMap_cons]
    have e : (pcCells q).length = 2 := rfl
    rw [List.getElem?_append_right (by rw [e]; omega), List.getElem?_append_right (by rw [e]; omega), e]
    rw [show (k + 1) * 2 - 2 = k * 2 from by omega, show (k + 1) * 2 + 1 - 2 = k * 2 + 1 from by omega]
    exact ih
theorem pcs_of_own {w : World} {B : Nat} {v : Value} {ps : List Pc} (h : w.ownsRow B 116 2 v ps.length (ps.flatMap pcCells)) : IsPcs w B v ps := by
  have hc := h
  rcases h.2 with ⟨rfl, h0⟩ | ⟨g, cap, cur, rfl, hB, hg, hr⟩
  · refine ⟨none, 0, by rw [h0], fun k p hk => ?_⟩
    have := (List.getElem?_eq_some_iff.1 hk).1
    omega
  · refine ⟨_, cap, rfl, fun k p hk => ⟨g, rfl, hB, (Array.getElem?_eq_some_iff.1 hg).1, ?_, ?_⟩⟩
    · have := hc.cells (g := g) rfl (k * 2) _ (flat_cells ps k p hk).1
      rwa [Addr.add_lit, Nat.zero_add] at this
    · have := hc.cells (g := g) rfl (k * 2 + 1) _ (flat_cells ps k p hk).2
      rwa [Addr.add_lit, Nat.zero_add] at this
theorem IsPcs.later {w w' : World} {B : Nat} {v : Value} {ps : List Pc} (h : IsPcs w B v ps) (hb : Below w.heap.size w w') : IsPcs w' B v ps := by
  obtain ⟨a, cap, rfl, hc⟩ := h
  refine ⟨a, cap, rfl, fun k p hk => ?_⟩
  obtain ⟨g, h1, h2, h3, h4, h5⟩ := hc k p hk
  have := hb.size
  exact ⟨g, h1, h2, by omega, (hb.cell (p := ⟨g, k * 2, none⟩) h3).trans h4, (hb.cell (p := ⟨g, k * 2 + 1, none⟩) h3).trans h5⟩
set_option maxRecDepth 100000 in
set_option maxHeartbeats 1000000 in
theorem refPiece_any (p : Pc) (w : World) (h2 : p.2 ≤ 255) :
    Calls Tryz.prog 82 #[pcv p] w fun e w' => e = .returned (.string ⟨(packP p).toArray⟩) ∧ Below w.heap.size w w' := by
  obtain ⟨c, n⟩ := p
  simp only at h2
  unfold pcv
  simp only
  go_enter Tryz.func82, Tryz.ntmps82
  go_wp2_with fail
  go_loopw [3, 4, 7] (fun t _ i wr => ∃ k : Nat, k ≤ n ∧ i = .int .i64 k ∧ t = .string ⟨(List.replicate (min k 4) c).toArray⟩ ∧ Hid (wr.heap[w.heap.size]? = some (.cells #[.int .u8 (c.toNat : Int), .int .i64 (n : Int)] 116 (0, 0))) ∧ Hid (Below w.heap.size w wr)) (fun _ _ i _ => n - (intOf i).toNat)
  case atStart => exact ⟨0, by omega, rfl, rfl, Lib.hid (heap_alloc_new _ _), Lib.hid ((Below.refl _ _).alloc (Nat.le_refl _) _)⟩
  case round =>
    obtain ⟨k, hk, rfl, rfl, hK, hB⟩ := hrel
    have a0 : wr.cell? ⟨w.heap.size, 0, none⟩ = some (.int .u8 (c.toNat : Int)) := by rw [cell_of_row _ _ _ _ _ _ hK.out]; rfl
    have a1 : wr.cell? ⟨w.heap.size, 1, none⟩ = some (.int .i64 (n : Int)) := by rw [cell_of_row _ _ _ _ _ _ hK.out]; rfl
    have hlt0 := (Array.getElem?_eq_some_iff.1 hK.out).1
    have hbs := hB.out.size
    by_cases hlt : k < n
    · by_cases h4 : (k : Int) < 4
      · have hcv := one_conv wr c _ rfl
        have hsz : (⟨(List.replicate (min k 4) c).toArray⟩ : ByteArray).size + (⟨#[c]⟩ : ByteArray).size ≤ 100 := by
          rw [text_size, List.length_replicate]
          show _ + 1 ≤ _
          omega
        have HR := Lib.hid (show List.replicate (min k 4) c ++ [c] = List.replicate (min (k + 1) 4) c by
          rw [show min k 4 = k from by omega, show min (k + 1) 4 = k + 1 from by omega, List.replicate_succ'])
        generalize List.replicate (min k 4) c = R at *
        go_wp2_with fail
        go_roundw
        case rel => exact ⟨k + 1, by omega, by go_num, by rw [← HR.out, ← text_append], Lib.hid ((Below.heap_alloc _ _ _ hlt0).trans hK.out), Lib.hid (hB.out.alloc hbs _)⟩
        case measure => simp [intOf]; omega
      · have HR := Lib.hid (show List.replicate (min k 4) c = List.replicate (min (k + 1) 4) c by
          rw [show min k 4 = 4 from by omega, show min (k + 1) 4 = 4 from by omega])
        generalize List.replicate (min k 4) c = R at *
        go_wp2_with fail
        go_roundw
        case rel => exact ⟨k + 1, by omega, by go_num, by rw [← HR.out], hK, hB⟩
        case measure => simp [intOf]; omega
    · obtain rfl : k = n := by omega
      by_cases h4 : (4 : Int) ≤ (k : Int)
      · have hx : ((k : Int) - 4) = ((UInt8.ofNat (k - 4)).toNat : Int) := by rw [UInt8.toNat_ofNat']; omega
        have hcv := one_conv wr (UInt8.ofNat (k - 4)) ((k : Int) - 4) hx
        have HP := Lib.hid (show packP (c, k) = List.replicate (min k 4) c ++ [UInt8.ofNat (k - 4)] by
          unfold packP; rw [if_neg (by simp; omega), show min k 4 = 4 from by omega])
        have hsz : (⟨(List.replicate (min k 4) c).toArray⟩ : ByteArray).size + (⟨#[UInt8.ofNat (k - 4)]⟩ : ByteArray).size ≤ 100 := by
          rw [text_size, List.length_replicate]
          show _ + 1 ≤ _
          omega
        clear hx
        generalize List.replicate (min k 4) c = R at *
        go_wp2_with fail
        go_ret
        exact ⟨by rw [HP.out, ← text_append]; rfl, hB.out.alloc hbs _⟩
      · have HP := Lib.hid (show packP (c, k) = List.replicate (min k 4) c by
          unfold packP; rw [if_pos (by simp; omega), show min k 4 = k from by omega])
        generalize List.replicate (min k 4) c = R at *
        go_wp2_with fail
        go_ret
        exact ⟨by rw [HP.out]; rfl, hB.out⟩
end Go.Proofs.YtnachbjhhpnadaaGreatDoor

/-
  MERGED by seg.py out of: SplCnt SplRefB UpE UpG UpH BlkA ObjF BwtMath UnMath.
-/
import Derived.Test.YtnffkbpgcidpkaaGreatDoorUpSegF
import Derived.Laws.EntriesVeiled
namespace Go.Proofs.YtnffkbpgcidpkaaGreatDoor
open Go.RowKit RleM SplM
set_option linter.unusedVariables false
theorem now_flat (room : Nat) (hr : 5 ≤ room) (QS : List Pc) : (flat (runS room QS).2).length ≤ (flat QS).length := by
  have h := (rightS room hr QS).all
  have e := congrArg (fun l => (flat l).length) h
  simp only [flat_append, List.length_append] at e
  omega
theorem bl_count : ∀ bs : List (List Pc), (∀ b ∈ bs, b ≠ []) → bs.length ≤ bs.flatten.length
  | [], _ => by simp
  | y :: ys, hh => by
    have h1 := bl_count ys (fun b hb => hh b (List.mem_cons_of_mem _ hb))
    have h2 := hh y (List.mem_cons_self ..)
    have h3 : 1 ≤ y.length := by
      cases y with
      | nil => exact absurd rfl h2
      | cons a r => simp
    simp only [List.flatten_cons, List.length_append, List.length_cons]
    omega
theorem pc_count : ∀ ps : List Pc, (∀ p ∈ ps, 1 ≤ p.2) → ps.length ≤ (flat ps).length
  | [], _ => by simp
  | y :: ys, hh => by
    have h1 := pc_count ys (fun b hb => hh b (List.mem_cons_of_mem _ hb))
    have h2 := hh y (List.mem_cons_self ..)
    rw [flat_cons, List.length_append, List.length_replicate, List.length_cons]
    omega
theorem outs_le (room : Nat) (h5 : 5 ≤ room) {QS : List Pc} {N : Nat} (hg : RleM.Good QS) (hs : (flat QS).length ≤ N) : (runS room QS).1.length ≤ N := by
  have hR := rightS room h5 QS
  have e1 := bl_count _ (fun b hb => (hR.full b hb).1)
  have e2 := congrArg List.length hR.all
  rw [List.length_append] at e2
  have e3 := pc_count QS (fun p hp => (good_mem hg hp).1)
  omega
theorem flat_take_le (ps : List Pc) (k : Nat) : (flat (ps.take k)).length ≤ (flat ps).length := by
  conv => rhs; rw [← List.take_append_drop k ps]
  rw [flat_append, List.length_append]; omega
end Go.Proofs.YtnffkbpgcidpkaaGreatDoor
namespace Go.Proofs.YtnffkbpgcidpkaaGreatDoor
open Go.RowKit RleM SplM
set_option linter.unusedVariables false
set_option linter.unusedSimpArgs false
theorem IsPcs.touch {w w' : World} {B : Nat} {v : Value} {ps : List Pc} (h : IsPcs w B v ps) {S : Nat → Prop} (hb : Touch S w w') (hS : ∀ g, B ≤ g → ¬ S g) : IsPcs w' B v ps := by
  obtain ⟨a, cap, rfl, hc⟩ := h
  refine ⟨a, cap, rfl, fun k p hk => ?_⟩
  obtain ⟨g, h1, h2, h3, h4, h5⟩ := hc k p hk
  have := hb.size
  exact ⟨g, h1, h2, by omega, (World.cell?_of_block (w := w) (a := ⟨g, k * 2, none⟩) (hb.block g h3 (hS g h2))).trans h4, (World.cell?_of_block (w := w) (a := ⟨g, k * 2 + 1, none⟩) (hb.block g h3 (hS g h2))).trans h5⟩
theorem flat_snoc (ps : List Pc) (p : Pc) : flat (ps ++ [p]) = flat ps ++ List.replicate p.2 p.1 := by
  rw [flat_append, flat_cons]
  simp [flat]
theorem spltxt_one (c : UInt8) (q : Nat) (l : List UInt8) : (⟨(l ++ List.replicate q c).toArray⟩ : ByteArray) ++ ⟨#[c]⟩ = ⟨(l ++ List.replicate (q + 1) c).toArray⟩ := by
  rw [show (⟨#[c]⟩ : ByteArray) = ⟨[c].toArray⟩ from rfl, text_append, List.replicate_succ', List.append_assoc]
set_option maxRecDepth 100000 in
set_option maxHeartbeats 8000000 in
theorem rof19_any (s : ByteArray) (room : Nat) (w : World) (h5 : 5 ≤ room) (hr : room ≤ 900000) (hs : s.size ≤ 900000) : Calls Tryz.prog 37 #[.string s, .int .i64 (room : Int)] w fun e w' => ∃ v, e = .returned v ∧ OwnRb w' w.heap.size v (blks room s.data.toList) ∧ Below w.heap.size w w' := by
  have hl : s.data.toList.length = s.size := by simp
  obtain ⟨ps, hps⟩ : ∃ ps, pieces s.data.toList = ps := ⟨_, rfl⟩
  have hgood := good s.data.toList
  have hflat := flat_pieces s.data.toList
  have HBK : Hid (blks room s.data.toList = endS (runS room ps)) := Lib.hid (by unfold blks; rw [hps])
  have HREF := Lib.hid (fun W => refPieces_any s W (by omega))
  rw [hps] at hgood hflat HREF
  have hcnt := pc_count ps (fun p hp => (good_mem hgood hp).1)
  rw [hflat, hl] at hcnt
  have HG := Lib.hid (fun k p (h : ps[k]? = some p) => good_mem hgood (List.mem_of_getElem? h))
  have HFL : Hid (∀ k, (flat (runS room (ps.take k)).2).length ≤ 900000) := Lib.hid (fun k => by
    have h1 := now_flat room h5 (ps.take k)
    have h2 := flat_take_le ps k
    rw [hflat, hl] at h2
    omega)
  have HNW : Hid (∀ k, (pack (runS room (ps.take k)).2).length ≤ room) := Lib.hid (fun k => (rightS room h5 (ps.take k)).now)
  have HOU : Hid (∀ k, (runS room (ps.take k)).1.length ≤ 900000) := Lib.hid (fun k => by
    have hg2 : RleM.Good (ps.take k) := good_left (ps := ps.take k) (qs := ps.drop k) (by rw [List.take_append_drop]; exact hgood)
    have := outs_le room h5 hg2 (flat_take_le ps k)
    rw [hflat, hl] at this
    omega)
  have HSN : Hid (∀ k p, ps[k]? = some p → runS room (ps.take (k + 1)) = stepS room (runS room (ps.take k)) p) := Lib.hid (fun k p h => by
    have hk := (List.getElem?_eq_some_iff.1 h).1
    have he := (List.getElem?_eq_some_iff.1 h).2
    rw [List.take_succ_eq_append_getElem hk, he, runS_snoc])
  have HTK : Hid (ps.take ps.length = ps) := Lib.hid (List.take_of_length_le (Nat.le_refl _))
  have HEN : Hid ((runS room ps).2 = [] ↔ (pack (runS room ps).2).length = 0) := Lib.hid ⟨fun h => by rw [h]; rfl, fun h => by
    by_cases he : (runS room ps).2 = []
    · exact he
    · have := pack_pos he (fun p hp => by
        have hm : p ∈ ps := by rw [← (rightS room h5 ps).all]; exact List.mem_append_right _ hp
        exact (good_mem hgood hm).1)
      omega⟩
  clear hgood hflat hl hps
  go_enter Tryz.func37, Tryz.ntmps37
  go_wp2_with fail
  refine (HREF.out _).mono ?_
  rintro e w1 ⟨v, rfl, hown, hb1⟩
  have hP := pcs_of_own hown
  obtain ⟨a, cap, rfl, hc⟩ := hP
  have hbx : Below w.heap.size w w1 := ((Below.refl _ _).alloc (Nat.le_refl _) (.cells #[.string ⟨#[]⟩, .string ⟨#[]⟩] 77)).trans (hb1.mono (by show w.heap.size ≤ (w.heap.push _).size; simp))
  have HPC : Hid (IsPcs w1 (w.heap.size + 1) (.slice a ps.length cap) ps) := Lib.hid ⟨a, cap, rfl, fun k p hk => by
    obtain ⟨g, h1, h2, h3⟩ := hc k p hk
    have e : (w.alloc (.cells #[.string ⟨#[]⟩, .string ⟨#[]⟩] 77)).heap.size = w.heap.size + 1 := by show (w.heap.push _).size = _; simp
    exact ⟨g, h1, by rw [← e]; exact h2, h3⟩⟩
  have HB1 := Lib.hid hbx
  have HR1 : Hid (RfS w w1 w.heap.size (.slice none 0 0) [] ⟨#[]⟩ ⟨#[]⟩) := Lib.hid ⟨(hb1.block w.heap.size (by show _ < (w.heap.push _).size; simp)).trans (heap_alloc_new w _), OwnRb.nil _ _, fun k hk => (by cases hk), Nat.le_refl _, hbx⟩
  clear hown hb1 hc hbx
  obtain ⟨wa, rfl⟩ : ∃ wa : World, wa = w1 := ⟨_, rfl⟩
  go_wp2_with fail
  go_loopw [14, 5] (fun vk vo wr => ∃ k : Nat, vk = .int .i64 (k : Int) ∧ k ≤ ps.length ∧ RfS w wr w.heap.size vo (runS room (ps.take k)).1 ⟨(pack (runS room (ps.take k)).2).toArray⟩ ⟨(flat (runS room (ps.take k)).2).toArray⟩ ∧ Touch (· = w.heap.size) wa wr ∧ (∀ j, vo.ownBlock = some j → wa.heap.size ≤ j)) (fun vk _ _ => ps.length - (intOf vk).toNat)
  case atStart => exact ⟨0, rfl, Nat.zero_le _, HR1.out, Touch.refl _ _, fun j hj => (by cases hj)⟩
  case round =>
    clear HR1 HB1
    obtain ⟨k, rfl, hk, hR, hB, hV⟩ := hrel
    have HV0 := Lib.hid hV
    clear hV
    obtain ⟨wb, rfl⟩ : ∃ wb : World, wb = wr := ⟨_, rfl⟩
    have HR := Lib.hid hR
    have HB := Lib.hid hB
    clear hR hB
    by_cases hlt : k < ps.length
    · have hki : (k : Int) < (ps.length : Int) := by omega
      obtain ⟨a2, cap2, hv2, hc2⟩ := HPC.out.touch HB.out (fun g hg e => by omega)
      obtain ⟨p, hp⟩ : ∃ p, ps[k]? = some p := ⟨_, List.getElem?_eq_getElem hlt⟩
      obtain ⟨g, ha, _, hg2, c0, c1⟩ := hc2 k p hp
      simp only [Value.slice.injEq] at hv2
      obtain ⟨rfl, _, rfl⟩ := hv2
      subst ha
      obtain ⟨hp1, hp2⟩ := HG.out k p hp
      have HS := Lib.hid (HSN.out k p hp)
      have hfl := HFL.out k
      have hnw := HNW.out k
      have HOL := Lib.hid (HOU.out k)
      obtain ⟨os, hos⟩ : ∃ os, (runS room (ps.take k)).1 = os := ⟨_, rfl⟩
      obtain ⟨now, hnow⟩ : ∃ now, (runS room (ps.take k)).2 = now := ⟨_, rfl⟩
      rw [show runS room (ps.take k) = (os, now) by rw [← hos, ← hnow]] at HS
      rw [hos, hnow] at HR
      rw [hos] at HOL
      rw [hnow] at hfl hnw
      clear hos hnow hc2 hp
      obtain ⟨pl, hpl⟩ : ∃ pl, (packP p).length = pl := ⟨_, rfl⟩
      obtain ⟨nl, hnl⟩ : ∃ nl, (pack now).length = nl := ⟨_, rfl⟩
      have hpl5 : pl ≤ 5 := by rw [← hpl]; exact SplM.packP_le p
      obtain ⟨XP, hXP⟩ : ∃ XP : ByteArray, (⟨(packP p).toArray⟩ : ByteArray) = XP := ⟨_, rfl⟩
      have hXs : (XP.size : Int) = (pl : Int) := by rw [← hXP, text_size, hpl]
      have hXn : XP.size = pl := by omega
      obtain ⟨S1, hS1⟩ : ∃ S1 : ByteArray, (⟨(pack now).toArray⟩ : ByteArray) = S1 := ⟨_, rfl⟩
      have hSs : (S1.size : Int) = (nl : Int) := by rw [← hS1, text_size, hnl]
      have hSn : S1.size = nl := by omega
      have HXS := Lib.hid (And.intro hXP hS1)
      have HPL := Lib.hid (And.intro hpl hnl)
      rw [hS1] at HR
      rw [hnl] at hnw
      obtain ⟨q, hq⟩ : ∃ q, nl + pl = q := ⟨_, rfl⟩
      have hqi : (nl : Int) + (pl : Int) = (q : Int) := by omega
      have hqw : IntKind.i64.wrap (q : Int) = (q : Int) := IntWalk.i64_in _ (by omega)
      have HPR := Lib.hid (fun W => refPiece_any p W hp2)
      unfold pcv at HPR
      rw [hXP] at HPR
      have hbs : wa.heap.size ≤ wb.heap.size := HB.out.size
      obtain ⟨c, pn⟩ := p
      simp only at hp1 hp2 HPR c0 c1
      clear hpl hnl hXP hS1
      go_wp2_with fail
      refine (HPR.out _).mono ?_
      rintro e w2 ⟨rfl, hb2⟩
      have HA2 : Hid (Below wb.heap.size wb w2) := Lib.hid (((Below.refl wb.heap.size wb).alloc (Nat.le_refl _) (.cells #[.int .u8 (c.toNat : Int), .int .i64 (pn : Int)] 89)).trans (hb2.mono (by simp)))
      have HR2 := Lib.hid (HR.out.later HA2.out)
      have hx2 := (hb2.block wb.heap.size (by show _ < (wb.heap.push _).size; simp)).trans (heap_alloc_new wb (.cells #[.int .u8 (c.toNat : Int), .int .i64 (pn : Int)] 89))
      have HX2 := Lib.hid hx2
      have HGX : Hid (w.heap.size < wb.heap.size) := Lib.hid HR.out.cells.2.2.2.2
      obtain ⟨d0, d1, f0, f1, _⟩ := HR2.out.cells
      obtain ⟨oa, oc, rfl⟩ := HR2.out.row.slice
      obtain ⟨L, hL⟩ : ∃ L, os.length = L := ⟨_, rfl⟩
      rw [hL] at HR HR2 HOL ⊢
      have HVX : Hid (∀ k, (Value.slice oa L oc).ownBlock = some k → k < wb.heap.size) := Lib.hid (fun k hk => (HR.out.row.lt k hk).2)
      have HLL := Lib.hid hL
      have HVL : Hid (∀ j, (Value.slice oa L oc).ownBlock = some j → wa.heap.size ≤ j) := Lib.hid (by rw [← HLL.out]; exact HV0.out)
      clear hb2 hx2 c0 c1 hL
      by_cases hf : room < q
      · have hfi : (q : Int) > (room : Int) := by omega
        have HS3 : Hid (runS room (ps.take (k + 1)) = (os ++ [now], [(c, pn)])) := Lib.hid (by
          rw [HS.out]
          unfold stepS
          rw [if_pos (by have h1 := HPL.out.1; have h2 := HPL.out.2; show (pack now).length + (packP (c, pn)).length > room; omega)])
        have hb2 : w.heap.size ≤ w2.heap.size := HR2.out.below.size
        go_wp2_with (at_builtin; go_loud (refine push_rb w2 rfl _ _ rfl w.heap.size _ os now S1 _ (by rw [← HXS.out.2]; rfl) HR2.out.row rfl w2.heap.size rfl rfl (Nat.le_trans (by have h := HLL.out; have h2 := HOL.out; omega) (Nat.le_refl _)) hb2 ?_))
        intro v3 w3 hO3 hT3 hv3
        have K3 := HR2.out.pushed hT3 hO3 hv3
        have HX3 : Hid (w3.heap[wb.heap.size]? = some (.cells #[.int .u8 (c.toNat : Int), .int .i64 (pn : Int)] 89 (0, 0))) := Lib.hid ((hT3.block _ (Array.getElem?_eq_some_iff.1 HX2.out).1 (fun e => by have := HVX.out _ e; omega)).trans HX2.out)
        have HB3 : Hid (Touch (· = w.heap.size) wa w3) := Lib.hid ((HB.out.trans (Touch.ofBelow (S := fun _ => False) HA2.out) (fun i hi => absurd hi (fun h => h))).trans hT3 (fun i hi => Or.inr (HVL.out i hi)))
        have HV3 : Hid (∀ j, v3.ownBlock = some j → wa.heap.size ≤ j) := Lib.hid (fun j hj => by
          rcases hv3 j hj with e | e
          · exact HVL.out j e
          · have := HA2.out.size; have := HB.out.size; omega)
        obtain ⟨oa3, oc3, rfl⟩ := hO3.slice
        obtain ⟨L3, hL3⟩ : ∃ L3, (os ++ [now]).length = L3 := ⟨_, rfl⟩
        rw [hL3] at K3 hv3 HV3 ⊢
        obtain ⟨e0, e1, g0, g1, _⟩ := K3.cells
        obtain ⟨W4, hW4⟩ : ∃ W4, w3.setCell ⟨w.heap.size, 0, none⟩ (.string ⟨#[]⟩) = W4 := ⟨_, rfl⟩
        have K4 := K3.set0 ⟨#[]⟩
        rw [hW4] at K4
        obtain ⟨_, e41, _, g41, _⟩ := K4.cells
        obtain ⟨W5, hW5⟩ : ∃ W5, W4.setCell ⟨w.heap.size, 1, none⟩ (.string ⟨#[]⟩) = W5 := ⟨_, rfl⟩
        have K5 := K4.set1 ⟨#[]⟩
        rw [hW5] at K5
        obtain ⟨e50, _, g50, _, _⟩ := K5.cells
        obtain ⟨wz, hW6⟩ : ∃ W6, W5.setCell ⟨w.heap.size, 0, none⟩ (.string XP) = W6 := ⟨_, rfl⟩
        have K6 := K5.set0 XP
        rw [hW6] at K6
        have HZ := Lib.hid K6
        have hne : wb.heap.size ≠ w.heap.size := by have := HGX.out; omega
        have HXZ : Hid (wz.heap[wb.heap.size]? = some (.cells #[.int .u8 (c.toNat : Int), .int .i64 (pn : Int)] 89 (0, 0))) := Lib.hid (by
          rw [← hW6, ← hW5, ← hW4]
          exact ((heap_setCell_other _ _ _ _ hne).trans ((heap_setCell_other _ _ _ _ hne).trans (heap_setCell_other _ _ _ _ hne))).trans HX3.out)
        have HBZ : Hid (Touch (· = w.heap.size) wa wz) := Lib.hid (by
          rw [← hW6, ← hW5, ← hW4]
          exact ((HB3.out.setCell (p := ⟨w.heap.size, 0, none⟩) (Or.inl rfl) _).setCell (p := ⟨w.heap.size, 1, none⟩) (Or.inl rfl) _).setCell (p := ⟨w.heap.size, 0, none⟩) (Or.inl rfl) _)
        have hadd : (⟨#[]⟩ : ByteArray) ++ XP = XP := by apply ByteArray.ext; simp
        have hsz0 : (⟨#[]⟩ : ByteArray).size + XP.size ≤ 2199023255552 := by show 0 + XP.size ≤ _; omega
        have HF0 : Hid (([] : List UInt8).length + pn ≤ 2000000) := Lib.hid (by simp; omega)
        have HFN : Hid (XP = ⟨(pack [(c, pn)]).toArray⟩ ∧ (⟨(([] : List UInt8) ++ List.replicate pn c).toArray⟩ : ByteArray) = ⟨(flat [(c, pn)]).toArray⟩) := Lib.hid ⟨by rw [pack_one]; exact HXS.out.1.symm, by simp [flat]⟩
        clear hO3 hT3 hv3 K3 K4 K5 K6 hne d0 d1 f0 f1 hL3
        have a1 : wz.cell? ⟨wb.heap.size, 1, none⟩ = some (.int .i64 (pn : Int)) := by rw [cell_of_row _ _ _ _ _ _ HXZ.out]; rfl
        go_wp2_with fail
        clear a1
        go_loopw [40] (fun vq wr => ∃ q : Nat, vq = .int .i64 (q : Int) ∧ q ≤ pn ∧ RfS w wr w.heap.size (.slice oa3 L3 oc3) (os ++ [now]) XP ⟨(([] : List UInt8) ++ List.replicate q c).toArray⟩ ∧ wr.heap[wb.heap.size]? = some (.cells #[.int .u8 (c.toNat : Int), .int .i64 (pn : Int)] 89 (0, 0)) ∧ Touch (· = w.heap.size) wa wr) (fun vq _ => pn - (intOf vq).toNat)
        case atStart => exact ⟨0, rfl, Nat.zero_le _, (by simpa using HZ.out), HXZ.out, HBZ.out⟩
        case round =>
          clear HZ HXZ HBZ
          obtain ⟨q, rfl, hq2, hR, hX, hB⟩ := hrel
          have HZ := Lib.hid hR
          have HXZ := Lib.hid hX
          have HBZ := Lib.hid hB
          clear hR hX hB
          by_cases hqp : q < pn
          · have hqi2 : (q : Int) < (pn : Int) := by omega
            obtain ⟨_, d1, _, f1, hgl⟩ := HZ.out.cells
            have a0 : wr.cell? ⟨wb.heap.size, 0, none⟩ = some (.int .u8 (c.toNat : Int)) := by rw [cell_of_row _ _ _ _ _ _ HXZ.out]; rfl
            have hxl := (Array.getElem?_eq_some_iff.1 HXZ.out).1
            have hcv := one_conv wr c _ rfl
            have hsz : (⟨(([] : List UInt8) ++ List.replicate q c).toArray⟩ : ByteArray).size + (⟨#[c]⟩ : ByteArray).size ≤ 2199023255552 := by
              rw [text_size, List.length_append, List.length_replicate]
              show _ + 1 ≤ _
              have := HF0.out
              omega
            have hadd := spltxt_one c q ([] : List UInt8)
            have HZ2 := Lib.hid ((HZ.out.set1 ⟨(([] : List UInt8) ++ List.replicate (q + 1) c).toArray⟩).later ((Below.refl _ _).alloc (Nat.le_refl _) (.cells #[.int .u8 (c.toNat : Int)] 5)))
            have HXZ2 : Hid (((wr.setCell ⟨w.heap.size, 1, none⟩ (.string ⟨(([] : List UInt8) ++ List.replicate (q + 1) c).toArray⟩)).alloc (.cells #[.int .u8 (c.toNat : Int)] 5)).heap[wb.heap.size]? = some (.cells #[.int .u8 (c.toNat : Int), .int .i64 (pn : Int)] 89 (0, 0))) := Lib.hid ((Below.heap_alloc _ _ _ (by simpa [World.setCell] using hxl)).trans ((heap_setCell_other _ _ _ _ (fun e => by have e2 : wb.heap.size = w.heap.size := e; have := HGX.out; omega)).trans HXZ.out))
            have HBZ2 : Hid (Touch (· = w.heap.size) wa ((wr.setCell ⟨w.heap.size, 1, none⟩ (.string ⟨(([] : List UInt8) ++ List.replicate (q + 1) c).toArray⟩)).alloc (.cells #[.int .u8 (c.toNat : Int)] 5))) := Lib.hid ((HBZ.out.setCell (p := ⟨w.heap.size, 1, none⟩) (Or.inl rfl) _).alloc _)
            obtain ⟨TX, hTX⟩ : ∃ TX : ByteArray, (⟨(([] : List UInt8) ++ List.replicate q c).toArray⟩ : ByteArray) = TX := ⟨_, rfl⟩
            obtain ⟨TY, hTY⟩ : ∃ TY : ByteArray, (⟨(([] : List UInt8) ++ List.replicate (q + 1) c).toArray⟩ : ByteArray) = TY := ⟨_, rfl⟩
            rw [hTX] at d1 hsz hadd
            rw [hTY] at hadd HZ2 HXZ2 HBZ2
            have HTY := Lib.hid hTY
            clear hTX hTY
            go_wp2_with fail
            go_roundw
            case rel => exact ⟨q + 1, by go_num, by omega, (by rw [HTY.out]; exact HZ2.out), HXZ2.out, HBZ2.out⟩
            case measure => simp [intOf]; omega
          · have hqi2 : ¬ (q : Int) < (pn : Int) := by omega
            have hqe : q = pn := by omega
            have HQE := Lib.hid hqe
            clear hqe
            go_wp2_with fail
            go_roundw
            case rel => exact ⟨k + 1, by go_num, by omega, (by rw [HS3.out]; have h := HZ.out; rw [HQE.out] at h; rw [← HFN.out.1, ← HFN.out.2]; exact h), HBZ.out, HV3.out⟩
            case measure => simp [intOf]; omega
      · have hfi : ¬ (q : Int) > (room : Int) := by omega
        have HS3 : Hid (runS room (ps.take (k + 1)) = (os, now ++ [(c, pn)])) := Lib.hid (by
          rw [HS.out]
          unfold stepS
          rw [if_neg (by have h1 := HPL.out.1; have h2 := HPL.out.2; show ¬ (pack now).length + (packP (c, pn)).length > room; omega)])
        obtain ⟨SX, hSX⟩ : ∃ SX : ByteArray, S1 ++ XP = SX := ⟨_, rfl⟩
        have hsz0 : S1.size + XP.size ≤ 2199023255552 := by omega
        obtain ⟨wz, hW6⟩ : ∃ W6, w2.setCell ⟨w.heap.size, 0, none⟩ (.string SX) = W6 := ⟨_, rfl⟩
        have K6 := HR2.out.set0 SX
        rw [hW6] at K6
        have HZ := Lib.hid K6
        have hne : wb.heap.size ≠ w.heap.size := by have := HGX.out; omega
        have HXZ : Hid (wz.heap[wb.heap.size]? = some (.cells #[.int .u8 (c.toNat : Int), .int .i64 (pn : Int)] 89 (0, 0))) := Lib.hid (by
          rw [← hW6]
          exact (heap_setCell_other _ _ _ _ hne).trans HX2.out)
        have HBZ : Hid (Touch (· = w.heap.size) wa wz) := Lib.hid (by
          rw [← hW6]
          exact (HB.out.trans (Touch.ofBelow (S := fun _ => False) HA2.out) (fun i hi => absurd hi (fun h => h))).setCell (p := ⟨w.heap.size, 0, none⟩) (Or.inl rfl) _)
        have HV3 := HVL
        obtain ⟨F0, hF0⟩ : ∃ F0, flat now = F0 := ⟨_, rfl⟩
        have HF0 : Hid (F0.length + pn ≤ 2000000) := Lib.hid (by rw [← hF0]; omega)
        have HFN : Hid (SX = ⟨(pack (now ++ [(c, pn)])).toArray⟩ ∧ (⟨(F0 ++ List.replicate pn c).toArray⟩ : ByteArray) = ⟨(flat (now ++ [(c, pn)])).toArray⟩) := Lib.hid ⟨by rw [← hSX, ← HXS.out.1, ← HXS.out.2, text_append, pack_append, pack_one], by rw [← hF0, flat_snoc]⟩
        rw [hF0] at HZ
        clear K6 hne hF0
        have a1 : wz.cell? ⟨wb.heap.size, 1, none⟩ = some (.int .i64 (pn : Int)) := by rw [cell_of_row _ _ _ _ _ _ HXZ.out]; rfl
        go_wp2_with fail
        clear a1
        go_loopw [40] (fun vq wr => ∃ q : Nat, vq = .int .i64 (q : Int) ∧ q ≤ pn ∧ RfS w wr w.heap.size (.slice oa L oc) os SX ⟨(F0 ++ List.replicate q c).toArray⟩ ∧ wr.heap[wb.heap.size]? = some (.cells #[.int .u8 (c.toNat : Int), .int .i64 (pn : Int)] 89 (0, 0)) ∧ Touch (· = w.heap.size) wa wr) (fun vq _ => pn - (intOf vq).toNat)
        case atStart => exact ⟨0, rfl, Nat.zero_le _, (by simpa using HZ.out), HXZ.out, HBZ.out⟩
        case round =>
          clear HZ HXZ HBZ
          obtain ⟨q, rfl, hq2, hR, hX, hB⟩ := hrel
          have HZ := Lib.hid hR
          have HXZ := Lib.hid hX
          have HBZ := Lib.hid hB
          clear hR hX hB
          by_cases hqp : q < pn
          · have hqi2 : (q : Int) < (pn : Int) := by omega
            obtain ⟨_, d1, _, f1, hgl⟩ := HZ.out.cells
            have a0 : wr.cell? ⟨wb.heap.size, 0, none⟩ = some (.int .u8 (c.toNat : Int)) := by rw [cell_of_row _ _ _ _ _ _ HXZ.out]; rfl
            have hxl := (Array.getElem?_eq_some_iff.1 HXZ.out).1
            have hcv := one_conv wr c _ rfl
            have hsz : (⟨(F0 ++ List.replicate q c).toArray⟩ : ByteArray).size + (⟨#[c]⟩ : ByteArray).size ≤ 2199023255552 := by
              rw [text_size, List.length_append, List.length_replicate]
              show _ + 1 ≤ _
              have := HF0.out
              omega
            have hadd := spltxt_one c q F0
            have HZ2 := Lib.hid ((HZ.out.set1 ⟨(F0 ++ List.replicate (q + 1) c).toArray⟩).later ((Below.refl _ _).alloc (Nat.le_refl _) (.cells #[.int .u8 (c.toNat : Int)] 5)))
            have HXZ2 : Hid (((wr.setCell ⟨w.heap.size, 1, none⟩ (.string ⟨(F0 ++ List.replicate (q + 1) c).toArray⟩)).alloc (.cells #[.int .u8 (c.toNat : Int)] 5)).heap[wb.heap.size]? = some (.cells #[.int .u8 (c.toNat : Int), .int .i64 (pn : Int)] 89 (0, 0))) := Lib.hid ((Below.heap_alloc _ _ _ (by simpa [World.setCell] using hxl)).trans ((heap_setCell_other _ _ _ _ (fun e => by have e2 : wb.heap.size = w.heap.size := e; have := HGX.out; omega)).trans HXZ.out))
            have HBZ2 : Hid (Touch (· = w.heap.size) wa ((wr.setCell ⟨w.heap.size, 1, none⟩ (.string ⟨(F0 ++ List.replicate (q + 1) c).toArray⟩)).alloc (.cells #[.int .u8 (c.toNat : Int)] 5))) := Lib.hid ((HBZ.out.setCell (p := ⟨w.heap.size, 1, none⟩) (Or.inl rfl) _).alloc _)
            obtain ⟨TX, hTX⟩ : ∃ TX : ByteArray, (⟨(F0 ++ List.replicate q c).toArray⟩ : ByteArray) = TX := ⟨_, rfl⟩
            obtain ⟨TY, hTY⟩ : ∃ TY : ByteArray, (⟨(F0 ++ List.replicate (q + 1) c).toArray⟩ : ByteArray) = TY := ⟨_, rfl⟩
            rw [hTX] at d1 hsz hadd
            rw [hTY] at hadd HZ2 HXZ2 HBZ2
            have HTY := Lib.hid hTY
            clear hTX hTY
            go_wp2_with fail
            go_roundw
            case rel => exact ⟨q + 1, by go_num, by omega, (by rw [HTY.out]; exact HZ2.out), HXZ2.out, HBZ2.out⟩
            case measure => simp [intOf]; omega
          · have hqi2 : ¬ (q : Int) < (pn : Int) := by omega
            have hqe : q = pn := by omega
            have HQE := Lib.hid hqe
            clear hqe
            go_wp2_with fail
            go_roundw
            case rel => exact ⟨k + 1, by go_num, by omega, (by rw [HS3.out]; have h := HZ.out; rw [HQE.out] at h; rw [← HFN.out.1, ← HFN.out.2]; exact h), HBZ.out, HV3.out⟩
            case measure => simp [intOf]; omega
    · have hki : ¬ (k : Int) < (ps.length : Int) := by omega
      have hke : k = ps.length := by omega
      rw [hke, HTK.out] at HR
      have HOL := HOU.out ps.length
      have HNL := HNW.out ps.length
      rw [HTK.out] at HOL HNL
      obtain ⟨os, hos⟩ : ∃ os, (runS room ps).1 = os := ⟨_, rfl⟩
      obtain ⟨now, hnow⟩ : ∃ now, (runS room ps).2 = now := ⟨_, rfl⟩
      have HBE : Hid (blks room s.data.toList = os ++ (if now = [] then [] else [now])) := Lib.hid (by rw [HBK.out]; unfold endS; rw [hos, hnow])
      rw [hnow] at HEN HNL
      rw [hos, hnow] at HR
      rw [hos] at HOL
      obtain ⟨oa, oc, rfl⟩ := HR.out.row.slice
      obtain ⟨L, hL⟩ : ∃ L, os.length = L := ⟨_, rfl⟩
      rw [hL] at HR HOL
      rw [hL]
      have HLL := Lib.hid (And.intro hL HOL)
      obtain ⟨S1, hS1⟩ : ∃ S1 : ByteArray, (⟨(pack now).toArray⟩ : ByteArray) = S1 := ⟨_, rfl⟩
      have hSl : S1.size = (pack now).length := by rw [← hS1]; exact text_size _
      rw [hS1] at HR
      obtain ⟨d0, d1, _, _, _⟩ := HR.out.cells
      have HXS := Lib.hid hS1
      clear hos hnow hke HOL hL hS1
      by_cases hn0 : now = []
      · have hz : ¬ (S1.size : Int) > 0 := by have := HEN.out.1 hn0; omega
        rw [if_pos hn0, List.append_nil] at HBE
        clear hn0
        go_wp2_with fail
        go_ret
        exact ⟨_, rfl, by rw [HBE.out]; exact HR.out.row, HR.out.below⟩
      · have hz : (S1.size : Int) > 0 := by
          have : ¬ (pack now).length = 0 := fun e => hn0 (HEN.out.2 e)
          omega
        rw [if_neg hn0] at HBE
        have hb2 : w.heap.size ≤ wb.heap.size := HR.out.below.size
        clear hn0
        go_wp2_with (at_builtin; go_loud (refine push_rb wb rfl _ _ rfl w.heap.size _ os now S1 _ (by rw [← HXS.out]; rfl) HR.out.row rfl wb.heap.size rfl rfl (by have h := HLL.out.1; have h2 := HLL.out.2; omega) hb2 ?_))
        intro v3 w3 hO3 hT3 hv3
        have HO3 := Lib.hid hO3
        have HB3 : Hid (Below w.heap.size w w3) := Lib.hid (HR.out.below.trans (hT3.below hb2 (fun k hk => (HR.out.row.lt k hk).1)))
        obtain ⟨oa3, oc3, rfl⟩ := hO3.slice
        clear hO3 hT3 hv3
        go_wp2_with fail
        go_ret
        exact ⟨_, rfl, by rw [HBE.out]; exact HO3.out, HB3.out⟩
end Go.Proofs.YtnffkbpgcidpkaaGreatDoor
namespace Go.Proofs.YtnffkbpgcidpkaaGreatDoor
open Go.RowKit RleM SplM BitM
set_option linter.unusedVariables false
set_option linter.unusedSimpArgs false
/-- The stream of the empty text, of level 1. -/
def l14 : List UInt8 := [66, 90, 104, 49, 23, 114, 69, 56, 80, 144, 0, 0, 0, 0]
def q14 : List Bool := headQ 1 4 ++ (tailQ ++ field (strm []).toNat 32)
theorem q14_bytes : byts (q14 ++ padding q14) = l14 := by decide +kernel
theorem none_blks5 : blks 5 (⟨#[]⟩ : ByteArray).data.toList = [] := by decide +kernel
set_option maxRecDepth 100000 in
set_option maxHeartbeats 4000000 in
theorem rwith21_none (w : World) : Calls Tryz.prog 27 #[.int .i64 1, .int .i64 24, .string ⟨#[]⟩] w fun e w' => e = .returned (.string ⟨l14.toArray⟩) ∧ Below w.heap.size w w' := by
  have HH := Lib.hid (rhead21_any 1 w (by omega))
  rw [show ((1 : Nat) : Int) = 1 from rfl] at HH
  have HOF := Lib.hid (fun W => rof19_any ⟨#[]⟩ 5 W (by omega) (by omega) (by decide))
  rw [none_blks5] at HOF
  rw [show ((5 : Nat) : Int) = 5 from rfl] at HOF
  have HP := Lib.hid (fun W => pack_any q14 W (by decide +kernel))
  rw [q14_bytes, show txt q14 = txt (headQ 1 4) ++ txt (tailQ ++ field (strm []).toNat 32) by unfold q14; rw [txt_append]] at HP
  have HT := Lib.hid (fun W => rtail21_any none 0 0 [] W (by
    obtain ⟨a, c, h1, h2⟩ := (OwnU.nil W 0).u32 (by decide)
    injection h1 with e1 e2 e3
    subst e1
    exact h2))
  have hs1 : (txt (headQ 1 4)).size = 32 := by decide +kernel
  have hs2 : (txt (tailQ ++ field (strm []).toNat 32)).size = 80 := by decide +kernel
  generalize txt (headQ 1 4) = O at *
  generalize txt (tailQ ++ field (strm []).toNat 32) = TT at *
  go_enter Tryz.func27, Tryz.ntmps27
  go_wp2_with fail
  refine HH.out.mono ?_
  rintro e w1 ⟨rfl, rfl⟩
  go_wp2_with fail
  refine (HOF.out _).mono ?_
  rintro e w2 ⟨rv, rfl, hO, hb2⟩
  have HB2 := Lib.hid hb2
  obtain ⟨a, cap, rfl⟩ := hO.slice
  rw [show ([] : List (List Pc)).length = 0 from rfl]
  clear hO hb2 HOF HH
  go_wp2_with fail
  go_loopw [7, 8, 20] (fun vo vs vj wr => vj = .int .i64 0 ∧ vo = .string O ∧ vs = .slice none 0 0 ∧ wr = w2) (fun _ _ _ _ => 0)
  case atStart => exact ⟨rfl, rfl, rfl, rfl⟩
  case round =>
    obtain ⟨rfl, rfl, rfl, rfl⟩ := hrel
    go_wp2_with fail
    refine (HT.out _).mono ?_
    rintro e w9 ⟨rfl, rfl⟩
    go_wp2_with fail
    refine (HP.out _).mono ?_
    rintro e w10 ⟨rfl, hb10⟩
    have HB10 := Lib.hid (HB2.out.trans (hb10.mono HB2.out.size))
    clear hb10
    go_wp2_with fail
    go_ret
    exact ⟨rfl, HB10.out⟩
theorem b14_0 : num (((bitsOf l14).drop 0).take 8) = 66 := by decide +kernel
theorem b14_1 : num (((bitsOf (l14.drop 1)).drop 0).take 8) = 90 := by decide +kernel
theorem b14_2 : num (((bitsOf (l14.drop 2)).drop 0).take 8) = 104 := by decide +kernel
theorem b14_3 : num (((bitsOf (l14.drop 3)).drop 0).take 8) = 49 := by decide +kernel
theorem b14_4 : num (((bitsOf (l14.drop 4)).drop 0).take 24) = 1536581 := by decide +kernel
theorem b14_5 : num (((bitsOf (l14.drop 4)).drop 24).take 24) = 3690640 := by decide +kernel
theorem b14_6 : num (((bitsOf (l14.drop 10)).drop 0).take 32) = 0 := by decide +kernel
end Go.Proofs.YtnffkbpgcidpkaaGreatDoor
namespace Go.Proofs.YtnffkbpgcidpkaaGreatDoor
open Go.RowKit BitM
set_option linter.unusedVariables false
set_option linter.unusedSimpArgs false
section
variable {B x fb ub pk sm : Nat} {win lim : Int} {en sh dn : Bool} {st : Int}
theorem Xs.apart {B : Nat} {w : World} {x fb ub pk sm : Nat} {rv : Value} {l : List UInt8} {dr sp p : Nat} {win lim U due lev : Int} {uen en sh dn : Bool} {st : Int} (h : Xs B w x fb ub pk sm rv l dr sp p win lim U due lev uen en sh dn st) (hg : 0 < B) :
    ub ≠ fb ∧ (∀ k, foot fb rv k → k ≠ ub) ∧ 0 ≠ fb ∧ 0 ≠ ub := by
  have h1 := h.own fb (Or.inl rfl)
  have h2 := h.base
  exact ⟨fun e => h1.2.1 e.symm, fun k hk => (h.own k hk).2.1, by omega, by omega⟩
theorem xp14_0 (w : World) (rv : Value) (sp : Nat) (hL : Lets w) (hg : 0 < B) (hB : B ≤ w.heap.size) (hsp : sp ≤ 0) (h : Xs B w x fb ub pk sm rv l14 0 sp 0 win lim 24 0 0 false en sh dn st) :
    Calls Tryz.prog 43 #[.pointer (some ⟨x, 0, none⟩)] w fun e w' => e = .returned (.int .i64 1) ∧ XsP B w x fb ub pk sm (l14.drop 1) 1 8 win lim 24 1 0 false en sh dn st w' :=
  xpread_ok 0 (n := 1) w h hB hsp (by decide) rfl rfl (fun W hb k => by
    obtain ⟨a1, a2, a3, a4⟩ := k.apart hg
    exact usStep_ok 0 ub fb rv l14 0 sp 8 24 0 0 false 1 0 false W rfl k.us a2 (usstepL 0 0 ub fb W k.us.cells.2.1 rfl rfl rfl (usletter0 ub fb rv l14 0 sp 0 24 W k.us (hL.below hb hL.lt) k.rdr a1 a2 a3 a4 (by decide) (by decide) b14_0)))
theorem xp14_1 (w : World) (rv : Value) (sp : Nat) (hL : Lets w) (hg : 0 < B) (hB : B ≤ w.heap.size) (hsp : sp ≤ 1) (h : Xs B w x fb ub pk sm rv (l14.drop 1) 1 sp 8 win lim 24 1 0 false en sh dn st) :
    Calls Tryz.prog 43 #[.pointer (some ⟨x, 0, none⟩)] w fun e w' => e = .returned (.int .i64 1) ∧ XsP B w x fb ub pk sm (l14.drop 2) 2 16 win lim 24 2 0 false en sh dn st w' :=
  xpread_ok 0 (n := 1) w h hB hsp (by decide) rfl rfl (fun W hb k => by
    obtain ⟨a1, a2, a3, a4⟩ := k.apart hg
    exact usStep_ok 0 ub fb rv (l14.drop 1) 1 sp 16 24 1 0 false 2 0 false W rfl k.us a2 (usstepL 1 0 ub fb W k.us.cells.2.1 rfl rfl rfl (usletter1 ub fb rv (l14.drop 1) 1 sp 8 24 W k.us (hL.below hb hL.lt) k.rdr a1 a2 a3 a4 (by decide) (by decide) b14_1)))
theorem xp14_2 (w : World) (rv : Value) (sp : Nat) (hL : Lets w) (hg : 0 < B) (hB : B ≤ w.heap.size) (hsp : sp ≤ 2) (h : Xs B w x fb ub pk sm rv (l14.drop 2) 2 sp 16 win lim 24 2 0 false en sh dn st) :
    Calls Tryz.prog 43 #[.pointer (some ⟨x, 0, none⟩)] w fun e w' => e = .returned (.int .i64 1) ∧ XsP B w x fb ub pk sm (l14.drop 3) 3 24 win lim 24 3 0 false en sh dn st w' :=
  xpread_ok 0 (n := 1) w h hB hsp (by decide) rfl rfl (fun W hb k => by
    obtain ⟨a1, a2, a3, a4⟩ := k.apart hg
    exact usStep_ok 0 ub fb rv (l14.drop 2) 2 sp 24 24 2 0 false 3 0 false W rfl k.us a2 (usstepL 2 0 ub fb W k.us.cells.2.1 rfl rfl rfl (usletter2 ub fb rv (l14.drop 2) 2 sp 16 24 W k.us (hL.below hb hL.lt) k.rdr a1 a2 a3 a4 (by decide) (by decide) b14_2)))
theorem xp14_3 (w : World) (rv : Value) (sp : Nat) (hg : 0 < B) (hB : B ≤ w.heap.size) (hsp : sp ≤ 3) (h : Xs B w x fb ub pk sm rv (l14.drop 3) 3 sp 24 win lim 24 3 0 false en sh dn st) :
    Calls Tryz.prog 43 #[.pointer (some ⟨x, 0, none⟩)] w fun e w' => e = .returned (.int .i64 1) ∧ XsP B w x fb ub pk sm (l14.drop 4) 4 32 win lim 24 4 1 false en sh dn st w' :=
  xpread_ok 0 (n := 1) w h hB hsp (by decide) rfl rfl (fun W hb k => by
    obtain ⟨a1, a2, a3, a4⟩ := k.apart hg
    exact usStep_ok 0 ub fb rv (l14.drop 3) 3 sp 32 24 3 0 false 4 1 false W rfl k.us a2 (usstepL 3 0 ub fb W k.us.cells.2.1 rfl rfl rfl (uslevel ub fb rv (l14.drop 3) 3 sp 24 24 W k.us k.rdr a1 a2 (by decide) (by decide) b14_3)))
theorem xp14_4 (w : World) (rv : Value) (sp : Nat) (hg : 0 < B) (hB : B ≤ w.heap.size) (hsp : sp ≤ 4) (h : Xs B w x fb ub pk sm rv (l14.drop 4) 4 sp 32 win lim 24 4 1 false en sh dn st) :
    Calls Tryz.prog 43 #[.pointer (some ⟨x, 0, none⟩)] w fun e w' => e = .returned (.int .i64 1) ∧ XsP B w x fb ub pk sm (l14.drop 10) 10 80 win lim 24 6 1 false en sh dn st w' :=
  xpread_ok 0 (n := 6) w h hB hsp (by decide) rfl rfl (fun W hb k => by
    obtain ⟨a1, a2, a3, a4⟩ := k.apart hg
    exact usStep_ok 0 ub fb rv (l14.drop 4) 4 sp 80 24 4 1 false 6 1 false W rfl k.us a2 (usstepM ub fb W k.us.cells.2.1 (usmagic ub fb rv (l14.drop 4) 4 sp 32 24 W k.us k.rdr a1 a2 (by decide) (by decide) b14_4 b14_5)))
theorem xp14_5 (w : World) (rv : Value) (sp : Nat) (hg : 0 < B) (hB : B ≤ w.heap.size) (hsp : sp ≤ 10) (h : Xs B w x fb ub pk sm rv (l14.drop 10) 10 sp 80 win lim 24 6 1 false en sh dn st) :
    Calls Tryz.prog 43 #[.pointer (some ⟨x, 0, none⟩)] w fun e w' => e = .returned (.int .i64 1) ∧ XsP B w x fb ub pk sm [] 14 112 win lim 24 0 1 true en sh dn st w' :=
  xpread_ok 2 (n := 4) w h hB hsp (by decide) rfl rfl (fun W hb k => by
    obtain ⟨a1, a2, a3, a4⟩ := k.apart hg
    exact usStep_ok 2 ub fb rv (l14.drop 10) 10 sp 112 24 6 1 false 0 1 true W rfl k.us a2 (usstepE ub fb W k.us.cells.2.1 (usend ub fb rv (l14.drop 10) 10 sp 80 24 W k.us k.rdr a1 a2 (by decide) (by decide) b14_6)))
/-- Too few bits for a letter: the place stays. -/
theorem usshort14 (W : World) (rv : Value) (dr sp p : Nat) (U lv : Int) (ue : Bool) (k : Xs B W x fb ub pk sm rv [] dr sp p win lim U 0 lv ue en sh dn st) (hU : (U == 0) = false) (hd : dr ≤ 1000) (hp : p = 8 * dr) (hg : 0 < B)
    (hl : Calls Tryz.prog 104 #[.pointer (some ⟨ub, 0, none⟩), .pointer (some ⟨fb, 0, none⟩)] W fun e w' => e = .returned (.int .i64 3) ∧ ∃ n, w' = W.drewN n) :
    Calls Tryz.prog 56 #[.pointer (some ⟨ub, 0, none⟩), .pointer (some ⟨fb, 0, none⟩)] W fun e w' => e = .returned (.tuple #[.int .i64 0, .int .i64 3]) ∧ ∃ n, w' = W.drewN n :=
  usStep_short ub fb U 0 lv ue W hU k.us (usstepL 0 3 ub fb W k.us.cells.2.1 rfl rfl rfl hl)
end
end Go.Proofs.YtnffkbpgcidpkaaGreatDoor
namespace Go.Proofs.YtnffkbpgcidpkaaGreatDoor
open Go.RowKit BitM
set_option linter.unusedVariables false
set_option linter.unusedSimpArgs false
section
variable {B x fb ub pk sm : Nat} {win lim : Int} {en sh dn : Bool} {st : Int}
/-- An expander that read i steps of the stream. -/
def p14 : Nat → Nat
  | 0 => 0 | 1 => 8 | 2 => 16 | 3 => 24 | 4 => 32 | 5 => 80 | _ => 112
def d14 : Nat → Int
  | 0 => 0 | 1 => 1 | 2 => 2 | 3 => 3 | 4 => 4 | 5 => 6 | _ => 0
def v14 : Nat → Int
  | 0 => 0 | 1 => 0 | 2 => 0 | 3 => 0 | _ => 1
def u14 : Nat → Bool
  | 0 => false | 1 => false | 2 => false | 3 => false | 4 => false | 5 => false | _ => true
def X14 (B : Nat) (w : World) (x fb ub pk sm : Nat) (i : Nat) (win lim : Int) (en sh dn : Bool) (st : Int) : Prop :=
  ∃ rv sp, sp ≤ p14 i / 8 ∧ Xs B w x fb ub pk sm rv (l14.drop (p14 i / 8)) (p14 i / 8) sp (p14 i) win lim 24 (d14 i) (v14 i) (u14 i) en sh dn st
theorem X14.obj {w : World} {i : Nat} (h : X14 B w x fb ub pk sm i win lim en sh dn st) : XpObj w x win lim fb ub pk sm en sh dn st := by
  obtain ⟨rv, sp, _, h⟩ := h
  exact h.obj
theorem X14.below {w w' : World} {i : Nat} (h : X14 B w x fb ub pk sm i win lim en sh dn st) (hb : Below w.heap.size w w') : X14 B w' x fb ub pk sm i win lim en sh dn st := by
  obtain ⟨rv, sp, h1, h⟩ := h
  exact ⟨rv, sp, h1, h.below hb⟩
theorem X14.of_obj {w w' : World} {i : Nat} (h : X14 B w x fb ub pk sm i win lim en sh dn st) (ht : Touch (· = x) w w') {en2 sh2 dn2 : Bool} {st2 : Int} (ho : XpObj w' x win lim fb ub pk sm en2 sh2 dn2 st2) : X14 B w' x fb ub pk sm i win lim en2 sh2 dn2 st2 := by
  obtain ⟨rv, sp, h1, h⟩ := h
  exact ⟨rv, sp, h1, h.of_obj ht ho⟩
theorem X14.base {w : World} {i : Nat} (h : X14 B w x fb ub pk sm i win lim en sh dn st) : B ≤ x := by
  obtain ⟨rv, sp, _, h⟩ := h
  exact h.base.1
theorem x14_read (i : Nat) (hi : i < 6) (w : World) (hL : Lets w) (hg : 0 < B) (hB : B ≤ w.heap.size) (h : X14 B w x fb ub pk sm i win lim en sh dn st) :
    Calls Tryz.prog 43 #[.pointer (some ⟨x, 0, none⟩)] w fun e w' => e = .returned (.int .i64 1) ∧ X14 B w' x fb ub pk sm (i + 1) win lim en sh dn st ∧ Below B w w' := by
  obtain ⟨rv, sp, hsp, k⟩ := h
  have go : ∀ {l dr p d v u}, XsP B w x fb ub pk sm l dr p win lim 24 d v u en sh dn st = XsP B w x fb ub pk sm (l14.drop (p14 (i + 1) / 8)) (p14 (i + 1) / 8) (p14 (i + 1)) win lim 24 (d14 (i + 1)) (v14 (i + 1)) (u14 (i + 1)) en sh dn st →
      (Calls Tryz.prog 43 #[.pointer (some ⟨x, 0, none⟩)] w fun e w' => e = .returned (.int .i64 1) ∧ XsP B w x fb ub pk sm l dr p win lim 24 d v u en sh dn st w') →
      Calls Tryz.prog 43 #[.pointer (some ⟨x, 0, none⟩)] w fun e w' => e = .returned (.int .i64 1) ∧ X14 B w' x fb ub pk sm (i + 1) win lim en sh dn st ∧ Below B w w' := fun he hc => hc.mono (by
    rintro e w' ⟨rfl, hz⟩
    rw [he] at hz
    obtain ⟨rv2, sp2, h1, h2, h3⟩ := hz
    exact ⟨rfl, ⟨rv2, sp2, h1, h2⟩, h3⟩)
  rcases (by omega : i = 0 ∨ i = 1 ∨ i = 2 ∨ i = 3 ∨ i = 4 ∨ i = 5) with rfl | rfl | rfl | rfl | rfl | rfl
  · exact go rfl (xp14_0 w rv sp hL hg hB hsp k)
  · exact go rfl (xp14_1 w rv sp hL hg hB hsp k)
  · exact go rfl (xp14_2 w rv sp hL hg hB hsp k)
  · exact go rfl (xp14_3 w rv sp hg hB hsp k)
  · exact go rfl (xp14_4 w rv sp hg hB hsp k)
  · exact go rfl (xp14_5 w rv sp hg hB hsp k)
theorem x14_short (w : World) (hg : 0 < B) (hB : B ≤ w.heap.size) (h : X14 B w x fb ub pk sm 6 win lim false sh dn st) :
    Calls Tryz.prog 43 #[.pointer (some ⟨x, 0, none⟩)] w fun e w' => e = .returned (.int .i64 0) ∧ X14 B w' x fb ub pk sm 6 win lim false true dn st ∧ Below B w w' := by
  obtain ⟨rv, sp, hsp, k⟩ := h
  refine (xpread_short w k hB hsp (by decide) rfl (fun W hb k2 => ?_)).mono ?_
  · obtain ⟨a1, a2, a3, a4⟩ := k2.apart hg
    exact usshort14 W rv 14 sp 112 24 1 true k2 rfl (by decide) rfl hg (usshort 0 1 ub fb rv [] 14 sp 112 24 W k2.us k2.rdr a1 a2 (by decide) (by decide))
  · rintro e w' ⟨rfl, rv2, sp2, h1, h2, h3⟩
    exact ⟨rfl, ⟨rv2, sp2, h1, h2⟩, h3⟩
theorem x14_end (w : World) (hg : 0 < B) (hB : B ≤ w.heap.size) (h : X14 B w x fb ub pk sm 6 win lim true sh dn st) :
    Calls Tryz.prog 43 #[.pointer (some ⟨x, 0, none⟩)] w fun e w' => e = .returned (.int .i64 1) ∧ X14 B w' x fb ub pk sm 6 win lim true sh true st ∧ Below B w w' := by
  obtain ⟨rv, sp, hsp, k⟩ := h
  refine (xpread_end w k hB hsp (by decide) rfl (fun W hb k2 => ?_)).mono ?_
  · obtain ⟨a1, a2, a3, a4⟩ := k2.apart hg
    exact usshort14 W rv 14 sp 112 24 1 true k2 rfl (by decide) rfl hg (usshort 0 1 ub fb rv [] 14 sp 112 24 W k2.us k2.rdr a1 a2 (by decide) (by decide))
  · rintro e w' ⟨rfl, rv2, sp2, h1, h2, h3⟩
    exact ⟨rfl, ⟨rv2, sp2, h1, h2⟩, h3⟩
/-- A round's measure: what is told by the cell 'short'. -/
noncomputable def shM (x k : Nat) (wr : World) : Nat := @ite _ (wr.cell? ⟨x, 5, none⟩ = some (.bool true)) (Classical.propDecidable _) 0 k
theorem shM_yes {w : World} {k : Nat} (h : XpObj w x win lim fb ub pk sm en true dn st) : shM x k w = 0 := if_pos h.cells.2.2.2.2.2.1
theorem shM_no {w : World} {k : Nat} (h : XpObj w x win lim fb ub pk sm en false dn st) : shM x k w = k := if_neg (fun e => by
  have := h.cells.2.2.2.2.2.1.symm.trans e
  simp at this)
set_option maxRecDepth 100000 in
set_option maxHeartbeats 4000000 in
theorem xpstep_six (w : World) (hL : Lets w) (hg : 0 < B) (hB : B ≤ w.heap.size) (hw : 0 < win) (h : X14 B w x fb ub pk sm 0 win lim false false false 0) :
    Calls Tryz.prog 16 #[.pointer (some ⟨x, 0, none⟩), .int .i64 100] w fun e w' => e = .returned (.int .i64 6) ∧ X14 B w' x fb ub pk sm 6 win lim false true false 6 ∧ Below B w w' := by
  have H := Lib.hid h
  have HL := Lib.hid hL
  have HG := Lib.hid hg
  have HW := Lib.hid hw
  clear h hL hg hw
  go_enter Tryz.func16, Tryz.ntmps16
  go_wp2_with fail
  go_loopw [5] (fun vg wr => (∃ i : Nat, i ≤ 6 ∧ vg = .int .i64 (i : Int) ∧ X14 B wr x fb ub pk sm i win lim false false false 0 ∧ Below B w wr) ∨ (vg = .int .i64 6 ∧ X14 B wr x fb ub pk sm 6 win lim false true false 0 ∧ Below B w wr)) (fun vg wr => shM x (8 - (intOf vg).toNat) wr)
  case atStart => exact Or.inl ⟨0, by omega, rfl, H.out, Below.refl _ _⟩
  case round =>
    rcases hrel with ⟨i, hi, rfl, k1, k2⟩ | ⟨rfl, k1, k2⟩
    · have HS := Lib.hid (xpstopped_any wr k1.obj HW.out)
      have hsz := k2.size
      have HK1 := Lib.hid k1
      have HK2 := Lib.hid k2
      have hm := shM_no (k := 8 - i) k1.obj
      have hi1 : (i : Int) < 100 := by omega
      by_cases h6 : i < 6
      · have HR := Lib.hid (xpsome_any 1 ((100 : Int) - (i : Int)) wr k1.obj (x14_read i h6 wr (HL.out.below k2 HG.out) HG.out (Nat.le_trans hB k2.size) k1))
        clear k1 k2
        go_wp2_with fail
        refine HS.out.mono ?_
        rintro e w1 ⟨rfl, hw1⟩
        obtain rfl := hw1.symm
        go_wp2_with fail
        refine HR.out.mono ?_
        rintro e w2 ⟨rfl, k3, k4⟩
        have HK3 := Lib.hid k3
        have HK4 := Lib.hid (HK2.out.trans k4)
        have hm2 := shM_no (k := 8 - (i + 1)) k3.obj
        clear k3 k4
        go_wp2_with fail
        go_roundw
        case rel => exact Or.inl ⟨i + 1, by omega, by go_num, HK3.out, HK4.out⟩
        case measure =>
          have e1 : (intOf (Value.int IntKind.i64 (i : Int))).toNat = i := by simp [intOf]
          have e2 : (intOf (Value.int IntKind.i64 ((i : Int) + 1))).toNat = i + 1 := by simp [intOf]
          rw [e1, e2, hm, hm2]
          omega
      · obtain rfl : i = 6 := by omega
        have HR := Lib.hid (xpsome_any 0 ((100 : Int) - 6) wr k1.obj (x14_short wr HG.out (Nat.le_trans hB k2.size) k1))
        clear k1 k2
        go_wp2_with fail
        refine HS.out.mono ?_
        rintro e w1 ⟨rfl, hw1⟩
        obtain rfl := hw1.symm
        go_wp2_with fail
        refine HR.out.mono ?_
        rintro e w2 ⟨rfl, k3, k4⟩
        have HK3 := Lib.hid k3
        have HK4 := Lib.hid (HK2.out.trans k4)
        have hm2 : ∀ k, shM x k w2 = 0 := fun k => shM_yes k3.obj
        clear k3 k4
        go_wp2_with fail
        go_roundw
        case rel => exact Or.inr ⟨rfl, HK3.out, HK4.out⟩
        case measure =>
          have e1 : (intOf (Value.int IntKind.i64 ((6 : Nat) : Int))).toNat = 6 := rfl
          rw [e1, hm, hm2]
          omega
    · have HS := Lib.hid (xpstopped_any wr k1.obj HW.out)
      have HK1 := Lib.hid k1
      have HK2 := Lib.hid k2
      obtain ⟨c0, c1, c2, c3, c4, c5, c6, c9, c10, c11, c12⟩ := k1.obj.cells
      have f12 := k1.obj.frozen 12
      obtain ⟨W3, hW3⟩ : ∃ W3, wr.setCell ⟨x, 12, none⟩ (.int .i64 6) = W3 := ⟨_, rfl⟩
      have ht3 : Touch (· = x) wr W3 := by rw [← hW3]; exact touch_cell (Touch.refl _ _)
      have HZ := Lib.hid (show X14 B W3 x fb ub pk sm 6 win lim false true false 6 ∧ Below B w W3 from ⟨k1.of_obj ht3 (by rw [← hW3]; exact k1.obj.setSt 6), k2.trans (ht3.below (Nat.le_trans hB k2.size) (fun k hk => by have := k1.base; have e : k = x := hk; omega))⟩)
      clear k1 k2 ht3
      go_wp2_with fail
      refine HS.out.mono ?_
      rintro e w1 ⟨rfl, hw1⟩
      obtain rfl := hw1.symm
      go_wp2_with fail
      go_ret
      exact ⟨rfl, HZ.out⟩
set_option maxRecDepth 100000 in
set_option maxHeartbeats 4000000 in
theorem xpstep_end (w : World) (hg : 0 < B) (hB : B ≤ w.heap.size) (hw : 0 < win) (h : X14 B w x fb ub pk sm 6 win lim true false false 6) :
    Calls Tryz.prog 16 #[.pointer (some ⟨x, 0, none⟩), .int .i64 100] w fun e w' => e = .returned (.int .i64 1) ∧ X14 B w' x fb ub pk sm 6 win lim true false true 7 ∧ Below B w w' := by
  have H := Lib.hid h
  have HG := Lib.hid hg
  have HW := Lib.hid hw
  clear h hg hw
  go_enter Tryz.func16, Tryz.ntmps16
  go_wp2_with fail
  go_loopw [5] (fun vg wr => (vg = .int .i64 0 ∧ wr = w) ∨ (vg = .int .i64 1 ∧ X14 B wr x fb ub pk sm 6 win lim true false true 6 ∧ Below B w wr)) (fun vg wr => 1 - (intOf vg).toNat)
  case atStart => exact Or.inl ⟨rfl, rfl⟩
  case round =>
    rcases hrel with ⟨rfl, rfl⟩ | ⟨rfl, k1, k2⟩
    · have HS := Lib.hid (xpstopped_any wr H.out.obj HW.out)
      have HR := Lib.hid (xpsome_any 1 ((100 : Int) - 0) wr H.out.obj (x14_end wr HG.out hB H.out))
      go_wp2_with fail
      refine HS.out.mono ?_
      rintro e w1 ⟨rfl, hw1⟩
      obtain rfl := hw1.symm
      go_wp2_with fail
      refine HR.out.mono ?_
      rintro e w2 ⟨rfl, k3, k4⟩
      have HK3 := Lib.hid k3
      have HK4 := Lib.hid k4
      clear k3 k4
      go_wp2_with fail
      go_roundw
      case rel => exact Or.inr ⟨rfl, HK3.out, HK4.out⟩
      case measure => decide
    · have HS := Lib.hid (xpstopped_any wr k1.obj HW.out)
      have HK1 := Lib.hid k1
      have HK2 := Lib.hid k2
      obtain ⟨c0, c1, c2, c3, c4, c5, c6, c9, c10, c11, c12⟩ := k1.obj.cells
      have f12 := k1.obj.frozen 12
      obtain ⟨W3, hW3⟩ : ∃ W3, wr.setCell ⟨x, 12, none⟩ (.int .i64 7) = W3 := ⟨_, rfl⟩
      have ht3 : Touch (· = x) wr W3 := by rw [← hW3]; exact touch_cell (Touch.refl _ _)
      have HZ := Lib.hid (show X14 B W3 x fb ub pk sm 6 win lim true false true 7 ∧ Below B w W3 from ⟨k1.of_obj ht3 (by rw [← hW3]; exact k1.obj.setSt 7), k2.trans (ht3.below (Nat.le_trans hB k2.size) (fun k hk => by have := k1.base; have e : k = x := hk; omega))⟩)
      clear k1 k2 ht3
      go_wp2_with fail
      refine HS.out.mono ?_
      rintro e w1 ⟨rfl, hw1⟩
      obtain rfl := hw1.symm
      go_wp2_with fail
      go_ret
      exact ⟨rfl, HZ.out⟩
set_option maxRecDepth 100000 in
set_option maxHeartbeats 4000000 in
/-- of a new expander -/
theorem xpstep_new {U : Int} {rv : Value} {sp : Nat} (w : World) (hg : 0 < B) (hB : B ≤ w.heap.size) (hw : 0 < win) (hU : 24 ≤ U) (hsp : sp ≤ 0) (h : Xs B w x fb ub pk sm rv [] 0 sp 0 win lim U 0 0 false false false false 0) :
    Calls Tryz.prog 16 #[.pointer (some ⟨x, 0, none⟩), .int .i64 9] w fun e w' => e = .returned (.int .i64 0) ∧ XpObj w' x win lim fb ub pk sm false true false 0 ∧ Below B w w' := by
  have H := Lib.hid h
  have HG := Lib.hid hg
  have HW := Lib.hid hw
  have hb := h.base.1
  have hU0 : (U == 0) = false := by simp; omega
  clear h hg hw
  go_enter Tryz.func16, Tryz.ntmps16
  go_wp2_with fail
  go_loopw [5] (fun vg wr => (vg = .int .i64 0 ∧ wr = w) ∨ (vg = .int .i64 0 ∧ XpObj wr x win lim fb ub pk sm false true false 0 ∧ Below B w wr)) (fun vg wr => shM x 1 wr)
  case atStart => exact Or.inl ⟨rfl, rfl⟩
  case round =>
    rcases hrel with ⟨rfl, rfl⟩ | ⟨rfl, k1, k2⟩
    · have HS := Lib.hid (xpstopped_any wr H.out.obj HW.out)
      have HR := Lib.hid (xpsome_any 0 ((9 : Int) - 0) wr H.out.obj (xpread_short wr H.out hB hsp (by decide) rfl (fun W hb k2 => by
        obtain ⟨a1, a2, a3, a4⟩ := k2.apart HG.out
        exact usshort14 W rv 0 sp 0 U 0 false k2 hU0 (by decide) rfl HG.out (usshort 0 0 ub fb rv [] 0 sp 0 U W k2.us k2.rdr a1 a2 (by decide) (by decide)))))
      have hm := shM_no (k := 1) H.out.obj
      go_wp2_with fail
      refine HS.out.mono ?_
      rintro e w1 ⟨rfl, hw1⟩
      obtain rfl := hw1.symm
      go_wp2_with fail
      refine HR.out.mono ?_
      rintro e w2 ⟨rfl, rv2, sp2, _, k3, k4⟩
      have HK3 := Lib.hid k3.obj
      have HK4 := Lib.hid k4
      have hm2 := shM_yes (k := 1) k3.obj
      clear k3 k4
      go_wp2_with fail
      go_roundw
      case rel => exact Or.inr ⟨rfl, HK3.out, HK4.out⟩
      case measure => rw [hm, hm2]; decide
    · have HS := Lib.hid (xpstopped_any wr k1 HW.out)
      have HK1 := Lib.hid k1
      have HK2 := Lib.hid k2
      obtain ⟨c0, c1, c2, c3, c4, c5, c6, c9, c10, c11, c12⟩ := k1.cells
      have f12 := k1.frozen 12
      obtain ⟨W3, hW3⟩ : ∃ W3, wr.setCell ⟨x, 12, none⟩ (.int .i64 0) = W3 := ⟨_, rfl⟩
      have ht3 : Touch (· = x) wr W3 := by rw [← hW3]; exact touch_cell (Touch.refl _ _)
      have HZ := Lib.hid (show XpObj W3 x win lim fb ub pk sm false true false 0 ∧ Below B w W3 from ⟨by rw [← hW3]; exact k1.setSt 0, k2.trans (ht3.below (Nat.le_trans hB k2.size) (fun k hk => by have e : k = x := hk; omega))⟩)
      clear k1 k2 ht3
      go_wp2_with fail
      refine HS.out.mono ?_
      rintro e w1 ⟨rfl, hw1⟩
      obtain rfl := hw1.symm
      go_wp2_with fail
      go_ret
      exact ⟨rfl, HZ.out⟩
end
end Go.Proofs.YtnffkbpgcidpkaaGreatDoor
namespace Go.Proofs.YtnffkbpgcidpkaaGreatDoor
open Go.RowKit
set_option linter.unusedVariables false
set_option linter.unusedSimpArgs false
theorem results_cell_two {P : Program} {fn : Func} {p q : Tmp} {ty : TypeId} (h : fn.results = #[.cell p ty, .tmp q]) (tmps : Array Value) (w : World) (g : Nat) (cs : Array Value) (t : TypeId) (d : TypeDesc) (e : Value)
    (hp : tmps.getD p undef = .pointer (some ⟨g, 0, none⟩)) (hq : tmps.getD q undef = e) (hg : w.heap[g]? = some (.cells cs t (0, 0))) (hu : P.underlying ty = some d) (hd : (match d with | .struct _ | .array _ _ => true | _ => false) = true) (hi : (P.info? ty).map (·.size) = some cs.size) :
    (results fn tmps).run P w = .ok (.tuple #[.agg cs, e]) w := by
  have hp' : tmps[p]?.getD undef = .pointer (some ⟨g, 0, none⟩) := by simpa using hp
  have hq' : tmps[q]?.getD undef = e := by simpa using hq
  simp [results, h, hp', hq', asAddr, run_loadVar_row w g t ty cs (0, 0) d hg hu hd hi]
theorem results_cell_one {P : Program} {fn : Func} {p : Tmp} {ty : TypeId} (h : fn.results = #[.cell p ty]) (tmps : Array Value) (w : World) (g : Nat) (cs : Array Value) (t : TypeId) (d : TypeDesc)
    (hp : tmps.getD p undef = .pointer (some ⟨g, 0, none⟩)) (hg : w.heap[g]? = some (.cells cs t (0, 0))) (hu : P.underlying ty = some d) (hd : (match d with | .struct _ | .array _ _ => true | _ => false) = true) (hi : (P.info? ty).map (·.size) = some cs.size) :
    (results fn tmps).run P w = .ok (.agg cs) w := by
  have hp' : tmps[p]?.getD undef = .pointer (some ⟨g, 0, none⟩) := by simpa using hp
  simp [results, h, hp', asAddr, run_loadVar_row w g t ty cs (0, 0) d hg hu hd hi]
/-- What was read of a block, empty. -/
def got0 : Array Value := #[.string ⟨#[]⟩, .int .i64 0, .int .u32 0]
theorem got0_built : Tryz.prog.built 69 [] = some got0 := by kernel_rfl
theorem got0_one : got0.all (·.oneCell') = true := by simp [got0, Value.oneCell']
theorem info_got (A : Array Value) (h : A.size = 3) : (Tryz.prog.info? 69).map (·.size) = some A.size := by rw [h]; kernel_rfl
/-- A reader's cells. -/
def bkV (room : Int) (begun : Bool) (sum origin : Int) (list row places : Value) (fronts other : Int) (last : Value) (wrong : Int) (done : Bool) : Array Value :=
  #[.int .i64 room, .bool begun, .int .u32 sum, .int .i64 origin, list, row, places, .int .i64 fronts, .int .i64 other, last, .int .i64 wrong, .bool done]
theorem bk_built (room : Int) : Tryz.prog.built 105 [(0, .int .i64 room)] = some (bkV room false 0 0 (.pointer none) (.pointer none) (.pointer none) 0 0 (.slice none 0 0) 0 false) := by kernel_rfl
theorem isRoom20_any (r : Int) (w : World) : Calls Tryz.prog 137 #[.int .i64 r] w fun e w' => e = .returned (.bool (decide (5 ≤ r ∧ r ≤ 900000))) ∧ w' = w := by
  by_cases h1 : r < 5
  · have h2 : ¬ r ≥ 5 := by omega
    have h3 : decide (5 ≤ r ∧ r ≤ 900000) = false := by rw [decide_eq_false_iff_not]; omega
    rw [h3]
    go_enter Tryz.func137, Tryz.ntmps137
    go_wp2_with fail
    go_ret
    exact ⟨rfl, rfl⟩
  · have h2 : r ≥ 5 := by omega
    by_cases h4 : r ≤ 900000
    · have h3 : decide (5 ≤ r ∧ r ≤ 900000) = true := by rw [decide_eq_true_eq]; omega
      rw [h3]
      go_enter Tryz.func137, Tryz.ntmps137
      go_wp2_with fail
      go_ret
      exact ⟨rfl, rfl⟩
    · have h3 : decide (5 ≤ r ∧ r ≤ 900000) = false := by rw [decide_eq_false_iff_not]; omega
      rw [h3]
      go_enter Tryz.func137, Tryz.ntmps137
      go_wp2_with fail
      go_ret
      exact ⟨rfl, rfl⟩
theorem bnew20_bad (r : Int) (w : World) (h : r < 5 ∨ 900000 < r) : Calls Tryz.prog 119 #[.int .i64 r] w fun e w' => e = .returned (.tuple #[.pointer none, .int .i64 1]) ∧ w' = w := by
  have HI := Lib.hid (isRoom20_any r w)
  rw [show decide (5 ≤ r ∧ r ≤ 900000) = false by rw [decide_eq_false_iff_not]; omega] at HI
  clear h
  go_enter Tryz.func119, Tryz.ntmps119
  go_wp2_with fail
  refine HI.out.mono ?_
  rintro e w1 ⟨rfl, rfl⟩
  go_wp2_with fail
  go_ret2
  exact ⟨rfl, rfl⟩
theorem bdone20_nil (w : World) : Calls Tryz.prog 121 #[.pointer none] w fun e w' => e = .returned (.bool false) ∧ w' = w := by
  go_enter Tryz.func121, Tryz.ntmps121
  go_wp2_with fail
  go_ret
  exact ⟨rfl, rfl⟩
theorem bheld20_nil (w : World) : Calls Tryz.prog 42 #[.pointer none] w fun e w' => e = .returned (.int .i64 0) ∧ w' = w := by
  go_enter Tryz.func42, Tryz.ntmps42
  go_wp2_with fail
  go_ret
  exact ⟨rfl, rfl⟩
theorem bstep20_nil (r : Option Addr) (w : World) : Calls Tryz.prog 120 #[.pointer none, .pointer r] w fun e w' => e = .returned (.int .i64 7) ∧ w' = w := by
  go_enter Tryz.func120, Tryz.ntmps120
  go_wp2_with fail
  go_ret
  exact ⟨rfl, rfl⟩
theorem bstep20_none (b : Addr) (w : World) : Calls Tryz.prog 120 #[.pointer (some b), .pointer none] w fun e w' => e = .returned (.int .i64 7) ∧ w' = w := by
  go_enter Tryz.func120, Tryz.ntmps120
  go_wp2_with fail
  go_ret
  exact ⟨rfl, rfl⟩
set_option maxHeartbeats 1000000 in
theorem bgot20_nil (w : World) : Calls Tryz.prog 122 #[.pointer none] w fun e w' => e = .returned (.agg got0) ∧ Below w.heap.size w w' := by
  have hr0 : (w.alloc (.cells #[.string ⟨#[]⟩, .int .i64 0, .int .u32 0] 69)).heap[w.heap.size]? = some (.cells got0 69 (0, 0)) := heap_alloc_new _ _
  have hi := info_got got0 rfl
  have HD := Lib.hid (fun W => bdone20_nil W)
  go_enter Tryz.func122, Tryz.ntmps122
  go_wp2_with fail
  refine (HD.out _).mono ?_
  rintro e w1 ⟨rfl, hw⟩
  subst hw
  go_wp2_with (first | (refine wpList_build_is rfl 69 rfl got0 got0_built ?_) | (refine wpList_store_row rfl 69 _ _ rfl w.heap.size got0 rfl rfl 69 got0 hr0 hi rfl got0_one ?_))
  refine bodyPost_ret (v := .agg got0) (results_cell_one rfl _ _ w.heap.size got0 69 _ rfl (setRow_heap _ _ got0 got0 69 _ hr0) Tryz.underlying69 rfl hi) rfl ⟨rfl, ?_⟩
  have hb : Below w.heap.size w (w.alloc (.cells #[.string ⟨#[]⟩, .int .i64 0, .int .u32 0] 69)) := (Below.refl _ _).alloc (Nat.le_refl _) _
  exact hb.trans ⟨rfl, rfl, rfl, by simp [World.setRow], fun j hj => setRow_other _ _ j _ (by omega)⟩
/-- A block's reader. -/
structure IsBk (w : World) (t : Nat) (room : Int) (begun : Bool) (sum origin : Int) (list row places : Value) (fronts other : Int) (last : Value) (wrong : Int) (done : Bool) : Prop where
  obj : w.heap[t]? = some (.cells (bkV room begun sum origin list row places fronts other last wrong done) 105 (0, 0))
set_option maxRecDepth 100000 in
theorem bnew20_any (r : Int) (w : World) (h : 5 ≤ r ∧ r ≤ 900000) : Calls Tryz.prog 119 #[.int .i64 r] w fun e w' => e = .returned (.tuple #[.pointer (some ⟨w.heap.size, 0, none⟩), .int .i64 0]) ∧ IsBk w' w.heap.size r false 0 0 (.pointer none) (.pointer none) (.pointer none) 0 0 (.slice none 0 0) 0 false ∧ Below w.heap.size w w' := by
  have HI := Lib.hid (isRoom20_any r w)
  rw [decide_eq_true h] at HI
  have hbt := bk_built r
  clear h
  go_enter Tryz.func119, Tryz.ntmps119
  go_wp2_with fail
  refine HI.out.mono ?_
  rintro e w1 ⟨rfl, hw⟩
  subst hw
  go_wp2_with (refine wpList_build_one rfl 105 0 _ rfl _ rfl _ hbt ?_)
  go_ret2
  exact ⟨rfl, ⟨heap_alloc_new _ _⟩, (Below.refl _ _).alloc (Nat.le_refl _) _⟩
end Go.Proofs.YtnffkbpgcidpkaaGreatDoor
namespace Go.Proofs.YtnffkbpgcidpkaaGreatDoor
open Go.RowKit
set_option linter.unusedVariables false
def ObjF (n : Nat) (T : TypeId) (w : World) (b : Nat) (F : Nat → Value) : Prop := w.heap[b]? = some (.cells (cellsF n F) T (0, 0))
theorem ObjF.cell {n : Nat} {T : TypeId} {w : World} {b : Nat} {F : Nat → Value} (h : ObjF n T w b F) {i : Nat} (hi : i < n) : w.cell? ⟨b, i, none⟩ = some (F i) ∧ w.frozen? ⟨b, i, none⟩ = false :=
  ⟨(cell_of_row _ _ _ _ _ _ h).trans (cellsF_get n F hi), frozen_of_row _ _ _ _ _ h⟩
theorem ObjF.set {n : Nat} {T : TypeId} {w : World} {b : Nat} {F : Nat → Value} (h : ObjF n T w b F) (i : Nat) (x : Value) : ObjF n T (w.setCell ⟨b, i, none⟩ x) b (upd F i x) := by
  have := heap_setCell_same w b i _ _ x h
  rw [cellsF_set] at this
  exact this
theorem ObjF.lt {n : Nat} {T : TypeId} {w : World} {b : Nat} {F : Nat → Value} (h : ObjF n T w b F) : b < w.heap.size := (Array.getElem?_eq_some_iff.1 h).1
theorem ObjF.other {n : Nat} {T : TypeId} {w w' : World} {b : Nat} {F : Nat → Value} (h : ObjF n T w b F) {S : Nat → Prop} (ht : Touch S w w') (hS : ¬ S b) : ObjF n T w' b F :=
  (ht.block b h.lt hS).trans h
theorem ObjF.below {n : Nat} {T : TypeId} {w w' : World} {b B : Nat} {F : Nat → Value} (h : ObjF n T w b F) (ht : Below B w w') (hB : b < B) : ObjF n T w' b F :=
  (ht.block b hB).trans h
theorem ObjF.drewN {n : Nat} {T : TypeId} {w : World} {b : Nat} {F : Nat → Value} (h : ObjF n T w b F) (m : Nat) : ObjF n T (w.drewN m) b F := h
theorem cellsF_size (n : Nat) (F : Nat → Value) : (cellsF n F).size = n := by simp [cellsF]
theorem cellsF_congr {n : Nat} {F G : Nat → Value} (h : ∀ k, k < n → F k = G k) : cellsF n F = cellsF n G := by
  unfold cellsF
  congr 1
  exact List.map_congr_left (fun k hk => h k (List.mem_range.1 hk))
theorem ObjF.ext {n : Nat} {T : TypeId} {w : World} {b : Nat} {F G : Nat → Value} (h : ObjF n T w b F) (e : ∀ k, k < n → F k = G k) : ObjF n T w b G := by
  unfold ObjF
  rw [← cellsF_congr e]
  exact h
/-- Some cells are stored side by side. -/
theorem cellsF_part (n : Nat) (F : Nat → Value) (o : Nat) (vs : List Value) (h : o + vs.length ≤ n) :
    ((cellsF n F).toList.take o ++ vs ++ (cellsF n F).toList.drop (o + vs.length)).toArray = cellsF n (fun k => if k < o then F k else if k < o + vs.length then vs.getD (k - o) (F k) else F k) := by
  apply Array.toList_inj.1
  show (List.take o ((List.range n).map F) ++ vs ++ List.drop (o + vs.length) ((List.range n).map F)) = (List.range n).map _
  apply List.ext_getElem
  · simp
    omega
  · intro j h1 h2
    have hjn : j < n := by simpa using h2
    simp only [List.getElem_map, List.getElem_range]
    by_cases c1 : j < o
    · rw [if_pos c1, List.getElem_append_left (by simp; omega), List.getElem_append_left (by simp; omega)]
      simp
    · rw [if_neg c1]
      by_cases c2 : j < o + vs.length
      · rw [if_pos c2, List.getElem_append_left (by simp; omega), List.getElem_append_right (by simp; omega)]
        have : min o n = o := by omega
        simp only [List.length_take, List.length_map, List.length_range, this]
        rw [List.getD_eq_getElem?_getD, List.getElem?_eq_getElem (by omega)]
        rfl
      · rw [if_neg c2, List.getElem_append_right (by simp; omega)]
        simp only [List.getElem_drop, List.getElem_map, List.getElem_range]
        congr 1
        simp
        omega
end Go.Proofs.YtnffkbpgcidpkaaGreatDoor
namespace Go.Proofs.YtnffkbpgcidpkaaGreatDoor
namespace BwtM
open Go.RowKit
set_option linter.unusedVariables false

/-! ### Byte by byte -/
def lle : List UInt8 → List UInt8 → Prop
  | [], _ => True
  | _ :: _, [] => False
  | a :: s, b :: t => a.toNat < b.toNat ∨ (a = b ∧ lle s t)
theorem lle_refl : ∀ s, lle s s
  | [] => trivial
  | a :: s => Or.inr ⟨rfl, lle_refl s⟩
theorem lle_anti : ∀ s t, lle s t → lle t s → s = t
  | [], [], _, _ => rfl
  | [], _ :: _, _, h => h.elim
  | _ :: _, [], h, _ => h.elim
  | a :: s, b :: t, h, k => by
    rcases h with h | ⟨rfl, h⟩
    · rcases k with k | ⟨rfl, k⟩
      · omega
      · omega
    · rcases k with k | ⟨_, k⟩
      · omega
      · rw [lle_anti s t h k]
theorem lle_trans : ∀ r s t, lle r s → lle s t → lle r t
  | [], _, _, _, _ => trivial
  | _ :: _, [], _, h, _ => h.elim
  | _ :: _, _ :: _, [], _, h => h.elim
  | a :: r, b :: s, c :: t, h, k => by
    rcases h with h | ⟨rfl, h⟩
    · rcases k with k | ⟨rfl, k⟩
      · exact Or.inl (by omega)
      · exact Or.inl h
    · rcases k with k | ⟨rfl, k⟩
      · exact Or.inl k
      · exact Or.inr ⟨rfl, lle_trans r s t h k⟩
theorem lle_total : ∀ s t, lle s t ∨ lle t s
  | [], _ => Or.inl trivial
  | _ :: _, [] => Or.inr trivial
  | a :: s, b :: t => by
    rcases Nat.lt_trichotomy a.toNat b.toNat with h | h | h
    · exact Or.inl (Or.inl h)
    · have e : a = b := UInt8.toNat_inj.1 h
      rcases lle_total s t with k | k
      · exact Or.inl (Or.inr ⟨e, k⟩)
      · exact Or.inr (Or.inr ⟨e.symm, k⟩)
    · exact Or.inr (Or.inl h)
/-- What is less stays so, if both lose their ends. -/
theorem lle_cut : ∀ (s t : List UInt8), lle s t → s.length = t.length → lle s.dropLast t.dropLast
  | [], _, _, _ => trivial
  | _ :: _, [], h, _ => h.elim
  | [a], b :: t, _, _ => trivial
  | a :: c :: s, [b], _, hl => by simp at hl
  | a :: c :: s, b :: d :: t, h, hl => by
    rcases h with h | ⟨rfl, h⟩
    · exact Or.inl h
    · exact Or.inr ⟨rfl, lle_cut (c :: s) (d :: t) h (by simpa using hl)⟩
/-- There is one order only. -/
theorem sorted_one : ∀ {a b : List (List UInt8)}, a.Perm b → a.Pairwise lle → b.Pairwise lle → a = b
  | [], b, hp, _, _ => by rw [List.nil_perm.1 hp]
  | x :: s, [], hp, _, _ => by have := hp.length_eq; simp at this
  | x :: s, y :: t, hp, ha, hb => by
    obtain ⟨h1, h2⟩ := List.pairwise_cons.1 ha
    obtain ⟨h3, h4⟩ := List.pairwise_cons.1 hb
    have e : x = y := by
      have hx : x ∈ y :: t := hp.mem_iff.1 (List.mem_cons_self ..)
      have hy : y ∈ x :: s := hp.mem_iff.2 (List.mem_cons_self ..)
      rcases List.mem_cons.1 hx with e | hx
      · exact e
      · rcases List.mem_cons.1 hy with e | hy
        · exact e.symm
        · exact lle_anti _ _ (h1 y hy) (h3 x hx)
    subst e
    rw [sorted_one hp.cons_inv h2 h4]

/-! ### Rotations -/
def rot (T : List UInt8) (i : Nat) : List UInt8 := T.drop i ++ T.take i
/-- The last byte goes to the front. -/
def rotr (s : List UInt8) : List UInt8 := s.getLastD 0 :: s.dropLast
theorem rot_len (T : List UInt8) (i : Nat) (h : i ≤ T.length) : (rot T i).length = T.length := by
  unfold rot; rw [List.length_append, List.length_drop, List.length_take]; omega
theorem rotr_snoc (s : List UInt8) (x : UInt8) : rotr (s ++ [x]) = x :: s := by
  unfold rotr
  rw [List.dropLast_concat, List.getLastD_concat]
theorem rotr_len (s : List UInt8) (h : s ≠ []) : (rotr s).length = s.length := by
  unfold rotr
  have := List.length_pos_iff.2 h
  simp; omega
theorem rotr_inj {s t : List UInt8} (hs : s ≠ []) (ht : t ≠ []) (h : rotr s = rotr t) : s = t := by
  unfold rotr at h
  simp only [List.cons.injEq] at h
  rw [← List.dropLast_concat_getLast hs, ← List.dropLast_concat_getLast ht, h.2]
  congr 2
  have e1 : s.getLastD 0 = s.getLast hs := by rw [List.getLastD_eq_getLast?, List.getLast?_eq_some_getLast hs]; rfl
  have e2 : t.getLastD 0 = t.getLast ht := by rw [List.getLastD_eq_getLast?, List.getLast?_eq_some_getLast ht]; rfl
  rw [← e1, ← e2, h.1]
/-- A rotation, its last byte in front, is the one at the place ahead. -/
theorem rotr_rot (T : List UInt8) (i : Nat) (h : i + 1 ≤ T.length) : rotr (rot T (i + 1)) = rot T i := by
  have hi : i < T.length := by omega
  unfold rot
  rw [List.take_succ_eq_append_getElem hi, ← List.append_assoc, rotr_snoc]
  conv => rhs; rw [List.drop_eq_getElem_cons hi]
  rfl
theorem rot_zero (T : List UInt8) : rot T 0 = T := by simp [rot]
theorem rot_all (T : List UInt8) : rot T T.length = T := by simp [rot]
theorem rotr_first (T : List UInt8) (h : 0 < T.length) : rotr (rot T 0) = rot T (T.length - 1) := by
  rw [rot_zero, ← rot_all T]
  conv => lhs; rw [show T.length = T.length - 1 + 1 by omega]
  rw [rotr_rot T (T.length - 1) (by omega), rot_all]
theorem rots_perm (T : List UInt8) (h : 0 < T.length) : ((List.range T.length).map fun p => rotr (rot T p)).Perm ((List.range T.length).map (rot T)) := by
  obtain ⟨m, hm⟩ : ∃ m, T.length = m + 1 := ⟨T.length - 1, by omega⟩
  rw [hm]
  have e1 : (List.range (m + 1)).map (fun p => rotr (rot T p)) = rot T m :: (List.range m).map (rot T) := by
    rw [List.range_succ_eq_map, List.map_cons, List.map_map]
    congr 1
    · rw [rotr_first T h, hm]; rfl
    · apply List.map_congr_left
      intro p hp
      have := List.mem_range.1 hp
      exact rotr_rot T p (by omega)
  rw [e1, List.range_succ, List.map_append]
  exact List.perm_append_comm (l₁ := [rot T m]) (l₂ := (List.range m).map (rot T))

/-! ### Links -/
/-- The places of T in the order of their rotations. -/
def IsOrd (T : List UInt8) (P : List Nat) : Prop := P.Perm (List.range T.length) ∧ (P.map (rot T)).Pairwise lle
/-- The last bytes. -/
def lasts (T : List UInt8) (P : List Nat) : List UInt8 := P.map fun p => (rot T p).getLastD 0
/-- The places of L by their bytes, those of one byte as they stand. -/
def IsLinks (L : List UInt8) (K : List Nat) : Prop := K.Perm (List.range L.length) ∧ K.Pairwise fun a b => (L.getD a 0).toNat < (L.getD b 0).toNat ∨ (L.getD a 0 = L.getD b 0 ∧ a < b)
theorem map_range_getD {β : Type} (f : Nat → β) (P : List Nat) : (List.range P.length).map (fun j => f (P.getD j 0)) = P.map f := by
  apply List.ext_getElem
  · simp
  · intro i h1 h2
    simp only [List.length_map] at h2
    rw [List.getElem_map, List.getElem_range, List.getElem_map, List.getD_eq_getElem?_getD, List.getElem?_eq_getElem h2]
    rfl
theorem mem_lt {T : List UInt8} {P : List Nat} (h : IsOrd T P) {p : Nat} (hp : p ∈ P) : p < T.length := List.mem_range.1 (h.1.mem_iff.1 hp)
theorem ord_len {T : List UInt8} {P : List Nat} (h : IsOrd T P) : P.length = T.length := by rw [h.1.length_eq, List.length_range]
theorem lasts_len (T : List UInt8) (P : List Nat) : (lasts T P).length = P.length := by simp [lasts]
theorem lasts_get {T : List UInt8} {P : List Nat} {i : Nat} (h : i < P.length) : (lasts T P).getD i 0 = (rot T (P.getD i 0)).getLastD 0 := by
  unfold lasts
  rw [List.getD_eq_getElem?_getD, List.getElem?_map, List.getD_eq_getElem?_getD, List.getElem?_eq_getElem h]
  rfl
/-- A link leads to a rotation that, its last byte in front, is the one that it comes from. -/
theorem links_rot {T : List UInt8} {P K : List Nat} (hn : 0 < T.length) (hP : IsOrd T P) (hK : IsLinks (lasts T P) K) : K.map (fun j => rotr (rot T (P.getD j 0))) = P.map (rot T) := by
  have hpl := ord_len hP
  have hkr : K.Perm (List.range P.length) := by have := hK.1; rwa [lasts_len] at this
  apply sorted_one
  · refine (hkr.map _).trans ?_
    rw [map_range_getD (fun p => rotr (rot T p)) P]
    exact ((hP.1.map _).trans (rots_perm T hn)).trans (hP.1.map (rot T)).symm
  · rw [List.pairwise_map]
    have hin : ∀ a ∈ K, a < P.length := fun a ha => List.mem_range.1 (hkr.mem_iff.1 ha)
    refine List.Pairwise.imp_of_mem (fun {a b} ha hb h => ?_) hK.2
    have ha' := hin a ha
    have hb' := hin b hb
    rw [lasts_get ha', lasts_get hb'] at h
    have hma : P.getD a 0 ∈ P := by
      rw [List.getD_eq_getElem?_getD, List.getElem?_eq_getElem ha']; exact List.getElem_mem ha'
    have hmb : P.getD b 0 ∈ P := by
      rw [List.getD_eq_getElem?_getD, List.getElem?_eq_getElem hb']; exact List.getElem_mem hb'
    rcases h with h | ⟨h, hab⟩
    · exact Or.inl h
    · refine Or.inr ⟨h, lle_cut _ _ ?_ ?_⟩
      · have hp := List.pairwise_iff_getElem.1 hP.2 a b (by simpa using ha') (by simpa using hb') hab
        rw [List.getElem_map, List.getElem_map] at hp
        rw [List.getD_eq_getElem?_getD, List.getElem?_eq_getElem ha', List.getD_eq_getElem?_getD, List.getElem?_eq_getElem hb']
        exact hp
      · rw [rot_len T _ (Nat.le_of_lt (mem_lt hP hma)), rot_len T _ (Nat.le_of_lt (mem_lt hP hmb))]
  · exact hP.2
theorem link_rot {T : List UInt8} {P K : List Nat} (hn : 0 < T.length) (hP : IsOrd T P) (hK : IsLinks (lasts T P) K) {i : Nat} (hi : i < T.length) :
    K.getD i 0 < T.length ∧ rotr (rot T (P.getD (K.getD i 0) 0)) = rot T (P.getD i 0) := by
  have h := links_rot hn hP hK
  have hpl := ord_len hP
  have hkr : K.Perm (List.range P.length) := by have := hK.1; rwa [lasts_len] at this
  have hkl : K.length = P.length := by rw [hkr.length_eq, List.length_range]
  have hki : i < K.length := by omega
  have hpi : i < P.length := by omega
  refine ⟨?_, ?_⟩
  · have hm : K.getD i 0 ∈ K := by
      rw [List.getD_eq_getElem?_getD, List.getElem?_eq_getElem hki]; exact List.getElem_mem hki
    have := List.mem_range.1 (hkr.mem_iff.1 hm)
    omega
  · have e := congrArg (fun l => l[i]?) h
    simp only [List.getElem?_map] at e
    rw [List.getElem?_eq_getElem hki, List.getElem?_eq_getElem hpi] at e
    simp only [Option.map_some, Option.some.injEq] at e
    rw [List.getD_eq_getElem?_getD (l := K), List.getElem?_eq_getElem hki, List.getD_eq_getElem?_getD (l := P) (i := i), List.getElem?_eq_getElem hpi]
    exact e
/-- What is told from a place on. -/
def follow (L : List UInt8) (K : List Nat) : Nat → Nat → List UInt8
  | 0, _ => []
  | k + 1, at_ => L.getD (K.getD at_ 0) 0 :: follow L K k (K.getD at_ 0)
theorem follow_text {T : List UInt8} {P K : List Nat} (hn : 0 < T.length) (hP : IsOrd T P) (hK : IsLinks (lasts T P) K) : ∀ (k m a : Nat), m + k = T.length → a < T.length → rot T (P.getD a 0) = rot T m →
    follow (lasts T P) K k a = T.drop m
  | 0, m, a, hm, _, _ => by rw [List.drop_eq_nil_of_le (by omega)]; rfl
  | k + 1, m, a, hm, ha, hr => by
    obtain ⟨h1, h2⟩ := link_rot hn hP hK ha
    have hpl := ord_len hP
    have hml : m < T.length := by omega
    have hin : P.getD (K.getD a 0) 0 ∈ P := by
      rw [List.getD_eq_getElem?_getD, List.getElem?_eq_getElem (by omega)]; exact List.getElem_mem _
    have hne : rot T (P.getD (K.getD a 0) 0) ≠ [] := fun e => by
      have := congrArg List.length e
      rw [rot_len T _ (Nat.le_of_lt (mem_lt hP hin))] at this
      simp at this; rw [this] at hn; simp at hn
    have hne2 : rot T (m + 1) ≠ [] := fun e => by
      have := congrArg List.length e
      rw [rot_len T _ (by omega)] at this
      simp at this; rw [this] at hn; simp at hn
    have e1 : rot T (P.getD (K.getD a 0) 0) = rot T (m + 1) := rotr_inj hne hne2 (by rw [h2, hr, rotr_rot T m (by omega)])
    have e2 : (lasts T P).getD (K.getD a 0) 0 = T[m] := by
      rw [lasts_get (by omega), e1]
      unfold rot
      rw [List.take_succ_eq_append_getElem hml, ← List.append_assoc, List.getLastD_concat]
    show (lasts T P).getD (K.getD a 0) 0 :: follow (lasts T P) K k (K.getD a 0) = T.drop m
    rw [e2, List.drop_eq_getElem_cons hml]
    congr 1
    by_cases hk : k = 0
    · subst hk
      rw [List.drop_eq_nil_of_le (by omega)]
      rfl
    · exact follow_text hn hP hK k (m + 1) (K.getD a 0) (by omega) h1 e1
/-- OF THE LAST BYTES AND THE ORIGIN OF A TEXT THE TEXT COMES BACK: of such as are several times the same, too. -/
theorem back {T : List UInt8} {P K : List Nat} (hn : 0 < T.length) (hP : IsOrd T P) (hK : IsLinks (lasts T P) K) {o : Nat} (ho : o < T.length) (h0 : P.getD o 0 = 0) : follow (lasts T P) K T.length o = T := by
  have := follow_text hn hP hK T.length 0 o (by omega) ho (by rw [h0])
  rw [List.drop_zero] at this
  exact this

/-! ### The period -/
theorem rot_add (T : List UInt8) (i k : Nat) (h : i + k ≤ T.length) : rot (rot T i) k = rot T (i + k) := by
  unfold rot
  rw [List.drop_append_of_le_length (by rw [List.length_drop]; omega), List.take_append_of_le_length (by rw [List.length_drop]; omega), List.drop_drop, List.append_assoc]
  congr 1
  rw [← List.take_add]
theorem rot_back (T : List UInt8) (i : Nat) (h : i ≤ T.length) : rot (rot T i) (T.length - i) = T := by
  rw [rot_add T i _ (by omega), show i + (T.length - i) = T.length by omega, rot_all]
/-- Two rotations are the same just if the text, turned by how far they are apart, is the same. -/
theorem rot_same (T : List UInt8) (i d : Nat) (h : i + d ≤ T.length) : rot T (i + d) = rot T i ↔ rot T d = T := by
  constructor
  · intro e
    have h1 : rot (rot T d) i = rot T i := by rw [rot_add T d i (by omega), Nat.add_comm, e]
    have h2 : rot (rot (rot T d) i) (T.length - i) = rot (rot T i) (T.length - i) := congrArg (fun s => rot s (T.length - i)) h1
    rw [rot_back T i (by omega)] at h2
    have h3 := rot_back (rot T d) i (by rw [rot_len T d (by omega)]; omega)
    rw [rot_len T d (by omega)] at h3
    rw [← h3, h2]
  · intro e
    rw [Nat.add_comm, ← rot_add T d i (by omega), e]
/-- By how far a text may be turned and is the same. -/
def Turns (T : List UInt8) (d : Nat) : Prop := d ≤ T.length ∧ rot T d = T
theorem turns_sub {T : List UInt8} {a b : Nat} (ha : Turns T a) (hb : Turns T b) (h : b ≤ a) : Turns T (a - b) := by
  refine ⟨by have := ha.1; omega, ?_⟩
  have e := (rot_same T b (a - b) (by have := ha.1; omega)).1 (by rw [show b + (a - b) = a by omega, ha.2, hb.2])
  exact e
theorem turns_gcd {T : List UInt8} : ∀ (n a b : Nat), a + b ≤ n → Turns T a → Turns T b → Turns T (Nat.gcd a b)
  | 0, a, b, h, ha, _ => by
    obtain rfl : a = 0 := by omega
    obtain rfl : b = 0 := by omega
    exact ha
  | n + 1, a, b, h, ha, hb => by
    by_cases h0 : a = 0
    · subst h0; rw [Nat.gcd_zero_left]; exact hb
    · by_cases h1 : b = 0
      · subst h1; rw [Nat.gcd_zero_right]; exact ha
      · by_cases hab : b ≤ a
        · have := turns_gcd n (a - b) b (by omega) (turns_sub ha hb hab) hb
          rwa [Nat.gcd_sub_self_left hab] at this
        · have := turns_gcd n a (b - a) (by omega) ha (turns_sub hb ha (by omega))
          rwa [Nat.gcd_sub_self_right (by omega)] at this
/-- p is the least by which the text may be turned, of those that divide its length. -/
def IsPeriod (T : List UInt8) (p : Nat) : Prop := 0 < p ∧ p ∣ T.length ∧ rot T p = T ∧ ∀ q, 0 < q → q ∣ T.length → rot T q = T → p ≤ q
theorem turns_mul {T : List UInt8} {p : Nat} (hp : Turns T p) : ∀ m : Nat, m * p ≤ T.length → Turns T (m * p)
  | 0, _ => by rw [Nat.zero_mul]; exact ⟨Nat.zero_le _, rot_zero T⟩
  | m + 1, h => by
    rw [Nat.add_mul, Nat.one_mul] at h ⊢
    have h1 := turns_mul hp m (by omega)
    exact ⟨h, by rw [← rot_add T (m * p) p h, h1.2, hp.2]⟩
theorem period_turns {T : List UInt8} {p d : Nat} (hn : 0 < T.length) (hp : IsPeriod T p) (hd : d ≤ T.length) : rot T d = T ↔ p ∣ d := by
  obtain ⟨h0, h1, h2, h3⟩ := hp
  have hpt : Turns T p := ⟨Nat.le_of_dvd hn h1, h2⟩
  constructor
  · intro e
    have hg := turns_gcd (p + d) p d (Nat.le_refl _) hpt ⟨hd, e⟩
    have hgp := Nat.gcd_dvd_left p d
    have hg0 : 0 < Nat.gcd p d := Nat.pos_of_dvd_of_pos hgp h0
    have h4 := h3 _ hg0 (Nat.dvd_trans hgp h1) hg.2
    have h5 := Nat.le_of_dvd h0 hgp
    have h6 : Nat.gcd p d = p := Nat.le_antisymm h5 h4
    rw [← h6]
    exact Nat.gcd_dvd_right p d
  · rintro ⟨m, rfl⟩
    rw [Nat.mul_comm] at hd ⊢
    exact (turns_mul hpt m hd).2
/-- TWO ROTATIONS ARE THE SAME JUST IF THEIR PLACES DIFFER BY A MULTIPLE OF THE PERIOD. -/
theorem alike {T : List UInt8} {p i k : Nat} (hp : IsPeriod T p) (hi : i < T.length) (hk : k < T.length) : rot T i = rot T k ↔ ((i : Int) - (k : Int)) % (p : Int) = 0 := by
  have hn : 0 < T.length := by omega
  have hd : (p : Int) ∣ (i : Int) - (k : Int) ↔ ((i : Int) - (k : Int)) % (p : Int) = 0 := ⟨Int.emod_eq_zero_of_dvd, Int.dvd_of_emod_eq_zero⟩
  rw [← hd]
  by_cases h : k ≤ i
  · obtain ⟨d, rfl⟩ := Nat.exists_eq_add_of_le h
    rw [rot_same T k d (by omega), period_turns hn hp (by omega), show ((k + d : Nat) : Int) - (k : Int) = (d : Int) by omega, Int.natCast_dvd_natCast]
  · obtain ⟨d, rfl⟩ := Nat.exists_eq_add_of_le (show i ≤ k by omega)
    rw [eq_comm, rot_same T i d (by omega), period_turns hn hp (by omega), show (i : Int) - ((i + d : Nat) : Int) = -(d : Int) by omega, Int.dvd_neg, Int.natCast_dvd_natCast]

/-! ### The sorted places -/
/-- Is the rotation at i ahead of that at k? -/
def Ahead (T : List UInt8) (i k : Nat) : Prop := (lle (rot T i) (rot T k) ∧ rot T i ≠ rot T k) ∨ (rot T i = rot T k ∧ i < k)
theorem ahead_lle {T : List UInt8} {i k : Nat} (h : Ahead T i k) : lle (rot T i) (rot T k) := by
  rcases h with h | h
  · exact h.1
  · rw [h.1]; exact lle_refl _
theorem ahead_asym {T : List UInt8} {i k : Nat} (h : Ahead T i k) : ¬ Ahead T k i := by
  intro g
  have e := lle_anti _ _ (ahead_lle h) (ahead_lle g)
  rcases h with h | h
  · exact h.2 e
  · rcases g with g | g
    · exact g.2 e.symm
    · omega
theorem ahead_trans {T : List UInt8} {i k m : Nat} (h : Ahead T i k) (g : Ahead T k m) : Ahead T i m := by
  have l := lle_trans _ _ _ (ahead_lle h) (ahead_lle g)
  by_cases e : rot T i = rot T m
  · have e2 : rot T i = rot T k := lle_anti _ _ (ahead_lle h) (by rw [e]; exact ahead_lle g)
    rcases h with h | h
    · exact absurd e2 h.2
    · rcases g with g | g
      · exact absurd (e2.symm.trans e) g.2
      · exact Or.inr ⟨e, by omega⟩
  · exact Or.inl ⟨l, e⟩
theorem ahead_total {T : List UInt8} {i k : Nat} (h : i ≠ k) : Ahead T i k ∨ Ahead T k i := by
  by_cases e : rot T i = rot T k
  · rcases Nat.lt_or_gt_of_ne h with g | g
    · exact Or.inl (Or.inr ⟨e, g⟩)
    · exact Or.inr (Or.inr ⟨e.symm, g⟩)
  · rcases lle_total (rot T i) (rot T k) with g | g
    · exact Or.inl (Or.inl ⟨g, e⟩)
    · exact Or.inr (Or.inl ⟨g, fun h => e h.symm⟩)
theorem strict_one {α : Type} {R : α → α → Prop} (hR : ∀ a b, R a b → ¬ R b a) : ∀ {a b : List α}, a.Perm b → a.Pairwise R → b.Pairwise R → a = b
  | [], b, hp, _, _ => by rw [List.nil_perm.1 hp]
  | x :: s, [], hp, _, _ => by have := hp.length_eq; simp at this
  | x :: s, y :: t, hp, ha, hb => by
    obtain ⟨h1, h2⟩ := List.pairwise_cons.1 ha
    obtain ⟨h3, h4⟩ := List.pairwise_cons.1 hb
    have e : x = y := by
      rcases List.mem_cons.1 (hp.mem_iff.1 (List.mem_cons_self ..)) with e | hx
      · exact e
      · rcases List.mem_cons.1 (hp.mem_iff.2 (List.mem_cons_self ..)) with e | hy
        · exact e.symm
        · exact absurd (h3 x hx) (hR _ _ (h1 y hy))
    subst e
    rw [strict_one hR hp.cons_inv h2 h4]
/-- P are the sorted places of T. -/
def IsSorted (T : List UInt8) (P : List Nat) : Prop := P.Perm (List.range T.length) ∧ P.Pairwise (Ahead T)
theorem IsSorted.same {T : List UInt8} {P Q : List Nat} (h : IsSorted T P) (k : IsSorted T Q) : P = Q := strict_one (fun _ _ => ahead_asym) (h.1.trans k.1.symm) h.2 k.2
theorem IsSorted.ord {T : List UInt8} {P : List Nat} (h : IsSorted T P) : IsOrd T P := ⟨h.1, by
  rw [List.pairwise_map]
  exact h.2.imp (fun h => ahead_lle h)⟩
open Classical in
/-- A place, put ahead of the first one that it is ahead of. -/
noncomputable def insP (T : List UInt8) (i : Nat) : List Nat → List Nat
  | [] => [i]
  | k :: t => if Ahead T i k then i :: k :: t else k :: insP T i t
theorem insP_perm (T : List UInt8) (i : Nat) : ∀ l, (insP T i l).Perm (i :: l)
  | [] => List.Perm.refl _
  | k :: t => by
    unfold insP
    split
    · exact List.Perm.refl _
    · exact ((insP_perm T i t).cons k).trans (List.Perm.swap i k t)
theorem insP_sorted (T : List UInt8) (i : Nat) : ∀ l, l.Pairwise (Ahead T) → i ∉ l → (insP T i l).Pairwise (Ahead T)
  | [], _, _ => List.pairwise_singleton _ _
  | k :: t, h, hn => by
    obtain ⟨h1, h2⟩ := List.pairwise_cons.1 h
    unfold insP
    split
    · rename_i ha
      exact List.pairwise_cons.2 ⟨fun x hx => by
        rcases List.mem_cons.1 hx with rfl | hx
        · exact ha
        · exact ahead_trans ha (h1 x hx), h⟩
    · rename_i ha
      have hki : Ahead T k i := (ahead_total (fun e => hn (by rw [e]; exact List.mem_cons_self ..))).resolve_left ha
      refine List.pairwise_cons.2 ⟨fun x hx => ?_, insP_sorted T i t h2 (fun h => hn (List.mem_cons_of_mem _ h))⟩
      rcases List.mem_cons.1 ((insP_perm T i t).mem_iff.1 hx) with rfl | hx
      · exact hki
      · exact h1 x hx
/-- The first k places, each put where it belongs. -/
noncomputable def sortP (T : List UInt8) : Nat → List Nat
  | 0 => []
  | k + 1 => insP T k (sortP T k)
theorem sortP_perm (T : List UInt8) : ∀ k, (sortP T k).Perm (List.range k)
  | 0 => List.Perm.refl _
  | k + 1 => by
    rw [List.range_succ]
    exact ((insP_perm T k _).trans ((sortP_perm T k).cons k)).trans (List.perm_append_comm (l₁ := [k]) (l₂ := List.range k))
theorem sortP_sorted (T : List UInt8) : ∀ k, (sortP T k).Pairwise (Ahead T)
  | 0 => List.Pairwise.nil
  | k + 1 => insP_sorted T k _ (sortP_sorted T k) (fun h => by
    have := List.mem_range.1 ((sortP_perm T k).mem_iff.1 h)
    omega)
theorem sortP_is (T : List UInt8) : IsSorted T (sortP T T.length) := ⟨sortP_perm T _, sortP_sorted T _⟩

/-! ### Of a rotation of the text the last bytes are the same -/
theorem turn_perm (T : List UInt8) (j : Nat) (hj : j ≤ T.length) : ((List.range T.length).map (rot (rot T j))).Perm ((List.range T.length).map (rot T)) := by
  obtain ⟨m, hm⟩ : ∃ m, T.length = m + j := ⟨T.length - j, by omega⟩
  have e1 : (List.range T.length).map (rot (rot T j)) = (List.range m).map (fun i => rot T (j + i)) ++ (List.range j).map (rot T) := by
    rw [hm, List.range_add, List.map_append, List.map_map]
    congr 1
    · apply List.map_congr_left
      intro i hi
      have := List.mem_range.1 hi
      exact rot_add T j i (by omega)
    · apply List.map_congr_left
      intro i hi
      have := List.mem_range.1 hi
      show rot (rot T j) (m + i) = rot T i
      have h1 := rot_back T j hj
      rw [show T.length - j = m by omega] at h1
      rw [← rot_add (rot T j) m i (by rw [rot_len T j hj]; omega), h1]
  have e2 : (List.range T.length).map (rot T) = (List.range j).map (rot T) ++ (List.range m).map (fun i => rot T (j + i)) := by
    rw [hm, Nat.add_comm m j, List.range_add, List.map_append, List.map_map]
    rfl
  rw [e1, e2]
  exact List.perm_append_comm
theorem lasts_turn {T : List UInt8} {j : Nat} {P Q : List Nat} (hj : j ≤ T.length) (hP : IsOrd T P) (hQ : IsOrd (rot T j) Q) : lasts (rot T j) Q = lasts T P := by
  have hl := rot_len T j hj
  have h1 : Q.map (rot (rot T j)) = P.map (rot T) := by
    refine sorted_one ?_ hQ.2 hP.2
    have h2 := hQ.1.map (rot (rot T j))
    rw [hl] at h2
    exact (h2.trans (turn_perm T j hj)).trans (hP.1.map (rot T)).symm
  have h3 : (Q.map (rot (rot T j))).map (fun s => s.getLastD 0) = (P.map (rot T)).map (fun s => s.getLastD 0) := by rw [h1]
  rw [List.map_map, List.map_map] at h3
  exact h3
/-- The last bytes are those of the text, in another order. -/
theorem lasts_perm {T : List UInt8} {P : List Nat} (hn : 0 < T.length) (hP : IsOrd T P) : (lasts T P).Perm T := by
  obtain ⟨m, hm⟩ : ∃ m, T.length = m + 1 := ⟨T.length - 1, by omega⟩
  have hlast : ∀ i, i < T.length → (rot T (i + 1)).getLastD 0 = T.getD i 0 := fun i hi => by
    unfold rot
    rw [List.take_succ_eq_append_getElem hi, ← List.append_assoc, List.getLastD_concat, List.getD_eq_getElem?_getD, List.getElem?_eq_getElem hi]
    rfl
  have h0 : (rot T 0).getLastD 0 = T.getD m 0 := by
    have h5 := hlast m (by omega)
    rw [show m + 1 = T.length by omega, rot_all] at h5
    rw [rot_zero]
    exact h5
  have e1 : T = (List.range T.length).map fun i => T.getD i 0 := by
    apply List.ext_getElem
    · simp
    · intro i h1 h2
      rw [List.getElem_map, List.getElem_range, List.getD_eq_getElem?_getD, List.getElem?_eq_getElem h1]
      rfl
  have h1 : (lasts T P).Perm ((List.range T.length).map fun p => (rot T p).getLastD 0) := hP.1.map _
  have e2 : (List.range T.length).map (fun p => (rot T p).getLastD 0) = T.getD m 0 :: (List.range m).map fun i => T.getD i 0 := by
    rw [hm, List.range_succ_eq_map, List.map_cons, List.map_map, h0]
    congr 1
    apply List.map_congr_left
    intro i hi
    have := List.mem_range.1 hi
    exact hlast i (by omega)
  have e3 : T = (List.range m).map (fun i => T.getD i 0) ++ [T.getD m 0] := by
    conv => lhs; rw [e1, hm, List.range_succ, List.map_append]
    rfl
  rw [e2] at h1
  refine h1.trans ?_
  conv => rhs; rw [e3]
  exact List.perm_append_comm (l₁ := [T.getD m 0]) (l₂ := (List.range m).map fun i => T.getD i 0)
end BwtM
end Go.Proofs.YtnffkbpgcidpkaaGreatDoor
namespace Go.Proofs.YtnffkbpgcidpkaaGreatDoor
open BwtM
set_option linter.unusedVariables false
set_option linter.unusedSimpArgs false
namespace UnM
/-- The byte at a place. -/
def by_ (L : List UInt8) (i : Nat) : Nat := (L.getD i 0).toNat
/-- The places of one byte, as they stand. -/
def blk (L : List UInt8) (b : Nat) : List Nat := (List.range L.length).filter fun i => by_ L i == b
/-- The places of the bytes below m. -/
def linksU (L : List UInt8) (m : Nat) : List Nat := (List.range m).flatMap (blk L)
def links (L : List UInt8) : List Nat := linksU L 256
/-- How often a byte stands in the first k. -/
def cnt (L : List UInt8) (k b : Nat) : Nat := ((List.range k).filter fun i => by_ L i == b).length
/-- How many places have a byte below b. -/
def fst_ (L : List UInt8) : Nat → Nat
  | 0 => 0
  | b + 1 => fst_ L b + cnt L L.length b
theorem by_lt (L : List UInt8) (i : Nat) : by_ L i < 256 := UInt8.toNat_lt _
theorem cnt_zero (L : List UInt8) (b : Nat) : cnt L 0 b = 0 := rfl
theorem cnt_next (L : List UInt8) (k b : Nat) : cnt L (k + 1) b = cnt L k b + if by_ L k = b then 1 else 0 := by
  unfold cnt
  rw [List.range_succ, List.filter_append, List.length_append]
  congr 1
  by_cases h : by_ L k = b
  · rw [if_pos h]
    simp [List.filter, h]
  · rw [if_neg h]
    have : (by_ L k == b) = false := by rw [beq_eq_false_iff_ne]; exact h
    simp [List.filter, this]
theorem cnt_le (L : List UInt8) (k b : Nat) : cnt L k b ≤ k := by
  unfold cnt
  refine Nat.le_trans (List.length_filter_le _ _) ?_
  rw [List.length_range]; exact Nat.le_refl _
theorem linksU_next (L : List UInt8) (m : Nat) : linksU L (m + 1) = linksU L m ++ blk L m := by
  unfold linksU
  rw [List.range_succ, List.flatMap_append]
  simp
theorem linksU_len (L : List UInt8) : ∀ m, (linksU L m).length = fst_ L m
  | 0 => rfl
  | m + 1 => by
    rw [linksU_next, List.length_append, linksU_len L m]
    rfl
theorem blk_get (L : List UInt8) {i : Nat} (hi : i < L.length) : (blk L (by_ L i))[cnt L i (by_ L i)]? = some i := by
  unfold blk cnt
  have e : List.range L.length = List.range i ++ i :: (List.range (L.length - i - 1)).map (fun x => i + 1 + x) := by
    have h1 : L.length = i + (1 + (L.length - i - 1)) := by omega
    conv => lhs; rw [h1, List.range_add, List.range_add]
    simp [Nat.add_assoc]
  rw [e, List.filter_append, List.getElem?_append_right (Nat.le_refl _), Nat.sub_self, List.filter_cons_of_pos (by simp)]
  rfl
theorem linksU_get (L : List UInt8) (b j : Nat) (hj : j < (blk L b).length) : ∀ m, b < m → (linksU L m)[fst_ L b + j]? = (blk L b)[j]?
  | 0, h => by omega
  | m + 1, h => by
    rw [linksU_next]
    by_cases hb : b < m
    · have ih := linksU_get L b j hj m hb
      rw [List.getElem?_eq_getElem hj] at ih
      obtain ⟨h1, _⟩ := List.getElem?_eq_some_iff.1 ih
      rw [List.getElem?_append_left h1, ih, List.getElem?_eq_getElem hj]
    · obtain rfl : b = m := by omega
      have hl := linksU_len L b
      rw [List.getElem?_append_right (by omega), hl, Nat.add_sub_cancel_left]
/-- Where a place's link stands. -/
def pos (L : List UInt8) (i : Nat) : Nat := fst_ L (by_ L i) + cnt L i (by_ L i)
theorem links_pos (L : List UInt8) {i : Nat} (hi : i < L.length) : (links L)[pos L i]? = some i := by
  have hb := blk_get L hi
  obtain ⟨h1, _⟩ := List.getElem?_eq_some_iff.1 hb
  unfold links pos
  rw [linksU_get L _ _ h1 256 (by_lt L i), hb]
theorem mem_blk {L : List UInt8} {b i : Nat} : i ∈ blk L b ↔ i < L.length ∧ by_ L i = b := by
  unfold blk
  rw [List.mem_filter, List.mem_range, beq_iff_eq]
theorem mem_linksU {L : List UInt8} {m i : Nat} : i ∈ linksU L m ↔ i < L.length ∧ by_ L i < m := by
  unfold linksU
  rw [List.mem_flatMap]
  constructor
  · rintro ⟨b, hb, hi⟩
    rw [List.mem_range] at hb
    rw [mem_blk] at hi
    exact ⟨hi.1, by omega⟩
  · rintro ⟨h1, h2⟩
    exact ⟨by_ L i, List.mem_range.2 h2, mem_blk.2 ⟨h1, rfl⟩⟩
theorem linksU_sorted (L : List UInt8) : ∀ m, (linksU L m).Pairwise fun a b => by_ L a < by_ L b ∨ (by_ L a = by_ L b ∧ a < b)
  | 0 => List.Pairwise.nil
  | m + 1 => by
    rw [linksU_next, List.pairwise_append]
    refine ⟨linksU_sorted L m, ?_, fun a ha b hb => ?_⟩
    · have h : (blk L m).Pairwise (· < ·) := List.Pairwise.sublist List.filter_sublist List.pairwise_lt_range
      refine List.Pairwise.imp_of_mem (fun {a b} ha hb h => ?_) h
      exact Or.inr ⟨(mem_blk.1 ha).2.trans (mem_blk.1 hb).2.symm, h⟩
    · rw [mem_linksU] at ha
      rw [mem_blk] at hb
      exact Or.inl (by omega)
theorem links_nodup (L : List UInt8) : (links L).Nodup := by
  refine List.Pairwise.imp ?_ (linksU_sorted L 256)
  rintro a b h rfl
  omega
theorem links_perm (L : List UInt8) : (links L).Perm (List.range L.length) := by
  rw [List.perm_ext_iff_of_nodup (links_nodup L) List.nodup_range]
  intro a
  unfold links
  rw [mem_linksU, List.mem_range]
  exact ⟨fun h => h.1, fun h => ⟨h, by_lt L a⟩⟩
theorem links_len (L : List UInt8) : (links L).length = L.length := by rw [(links_perm L).length_eq, List.length_range]
theorem links_is (L : List UInt8) : IsLinks L (links L) := by
  refine ⟨links_perm L, List.Pairwise.imp (fun {a b} h => ?_) (linksU_sorted L 256)⟩
  rcases h with h | ⟨h, h2⟩
  · exact Or.inl h
  · exact Or.inr ⟨UInt8.toNat.inj h, h2⟩
theorem links_lt {L : List UInt8} {p : Nat} (hp : p < L.length) : (links L).getD p 0 < L.length := by
  rw [List.getD_eq_getElem?_getD, List.getElem?_eq_getElem (by rw [links_len]; exact hp)]
  have := (links_perm L).mem_iff.1 (List.getElem_mem (l := links L) (n := p) (by rw [links_len]; exact hp))
  exact List.mem_range.1 this
theorem pos_lt {L : List UInt8} {i : Nat} (hi : i < L.length) : pos L i < L.length := by
  obtain ⟨h, _⟩ := List.getElem?_eq_some_iff.1 (links_pos L hi)
  rwa [links_len] at h
theorem pos_iff {L : List UInt8} {i p : Nat} (hi : i < L.length) (hp : p < L.length) : (links L).getD p 0 = i ↔ p = pos L i := by
  have h := links_pos L hi
  constructor
  · intro e
    have hp' : p < (links L).length := by rw [links_len]; exact hp
    obtain ⟨h1, h2⟩ := List.getElem?_eq_some_iff.1 h
    rw [List.getD_eq_getElem?_getD, List.getElem?_eq_getElem hp'] at e
    have hnd := List.pairwise_iff_getElem.1 (links_nodup L)
    rcases Nat.lt_trichotomy p (pos L i) with hlt | heq | hlt
    · exact absurd (e.trans h2.symm) (hnd p (pos L i) hp' h1 hlt)
    · exact heq
    · exact absurd (h2.trans e.symm) (hnd (pos L i) p h1 hp' hlt)
  · rintro rfl
    rw [List.getD_eq_getElem?_getD, h]; rfl
/-- The row of links, when the first k places were linked. -/
def rowAt (L : List UInt8) (k : Nat) : List Nat := (links L).map fun i => if i < k then i else 0
theorem rowAt_len (L : List UInt8) (k : Nat) : (rowAt L k).length = L.length := by unfold rowAt; rw [List.length_map, links_len]
theorem rowAt_zero (L : List UInt8) : rowAt L 0 = List.replicate L.length 0 := by
  unfold rowAt
  rw [← links_len]
  apply List.ext_getElem
  · simp
  · intro i h1 h2
    simp
theorem rowAt_all (L : List UInt8) {k : Nat} (hk : L.length ≤ k) : rowAt L k = links L := by
  unfold rowAt
  conv => rhs; rw [← List.map_id (links L)]
  refine List.map_congr_left (fun a ha => ?_)
  have := List.mem_range.1 ((links_perm L).mem_iff.1 ha)
  rw [if_pos (by omega)]
  rfl
theorem rowAt_next (L : List UInt8) {k : Nat} (hk : k < L.length) : rowAt L (k + 1) = (rowAt L k).set (pos L k) k := by
  apply List.ext_getElem
  · rw [List.length_set, rowAt_len, rowAt_len]
  · intro p h1 h2
    rw [rowAt_len] at h1
    have hl : p < (links L).length := by rw [links_len]; exact h1
    have hi := pos_iff (i := k) hk h1
    rw [List.getD_eq_getElem?_getD, List.getElem?_eq_getElem hl] at hi
    rw [List.getElem_set]
    simp only [rowAt, List.getElem_map]
    by_cases hp : pos L k = p
    · rw [if_pos hp]
      have e : (links L)[p] = k := hi.2 hp.symm
      rw [e, if_pos (by omega)]
    · rw [if_neg hp]
      have e : ¬ (links L)[p] = k := fun e => hp (hi.1 e).symm
      by_cases h3 : (links L)[p] < k
      · rw [if_pos h3, if_pos (by omega)]
      · rw [if_neg h3, if_neg (by omega)]
/-- What stands at a byte while the places are linked: where its next link goes. -/
def nxt (L : List UInt8) (k b : Nat) : Nat := fst_ L b + cnt L k b
theorem nxt_pos (L : List UInt8) (k : Nat) : nxt L k (by_ L k) = pos L k := rfl
theorem nxt_next (L : List UInt8) (k b : Nat) : nxt L (k + 1) b = if b = by_ L k then nxt L k b + 1 else nxt L k b := by
  unfold nxt
  rw [cnt_next]
  by_cases h : by_ L k = b
  · rw [if_pos h, if_pos h.symm, Nat.add_assoc]
  · rw [if_neg h, if_neg (fun e => h e.symm), Nat.add_zero]
theorem fst_le (L : List UInt8) (b : Nat) : fst_ L b ≤ L.length := by
  rw [← linksU_len]
  have h : (linksU L b).Nodup := by
    refine List.Pairwise.imp ?_ (linksU_sorted L b)
    rintro a b h rfl
    omega
  have hs : linksU L b ⊆ List.range L.length := fun a ha => List.mem_range.2 (mem_linksU.1 ha).1
  have := List.Nodup.length_le_of_subset h hs
  rwa [List.length_range] at this
/-- The place behind k links. -/
def plc (K : List Nat) (o : Nat) : Nat → Nat
  | 0 => o
  | k + 1 => K.getD (plc K o k) 0
theorem plc_shift (K : List Nat) (o : Nat) : ∀ k, plc K (K.getD o 0) k = plc K o (k + 1)
  | 0 => rfl
  | k + 1 => by
    show K.getD (plc K (K.getD o 0) k) 0 = K.getD (plc K o (k + 1)) 0
    rw [plc_shift K o k]
theorem follow_len (L : List UInt8) (K : List Nat) : ∀ k o, (BwtM.follow L K k o).length = k
  | 0, _ => rfl
  | k + 1, o => by
    show (BwtM.follow L K k (K.getD o 0)).length + 1 = k + 1
    rw [follow_len L K k]
theorem follow_next (L : List UInt8) (K : List Nat) : ∀ k o, BwtM.follow L K (k + 1) o = BwtM.follow L K k o ++ [L.getD (plc K o (k + 1)) 0]
  | 0, o => rfl
  | k + 1, o => by
    show L.getD (K.getD o 0) 0 :: BwtM.follow L K (k + 1) (K.getD o 0) = (L.getD (K.getD o 0) 0 :: BwtM.follow L K k (K.getD o 0)) ++ [L.getD (plc K o (k + 2)) 0]
    rw [follow_next L K k (K.getD o 0), plc_shift K o (k + 1)]
    rfl
theorem plc_lt {L : List UInt8} {o : Nat} (ho : o < L.length) : ∀ k, plc (links L) o k < L.length
  | 0 => ho
  | k + 1 => links_lt (plc_lt ho k)
end UnM
end Go.Proofs.YtnffkbpgcidpkaaGreatDoor

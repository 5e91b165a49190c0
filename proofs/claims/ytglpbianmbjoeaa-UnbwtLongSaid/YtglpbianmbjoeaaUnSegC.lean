/-
  MERGED by seg.py out of: SrtC Repeat SrtD SrtE RotD RotE RotF SrtF SrtG SrtH SrtI SrtJ SrtK SrtL Len SrtM SrtN Clone.
-/
import Derived.Test.YtglpbianmbjoeaaUnSegB
import Derived.Laws.CopyRow
import Derived.Laws.BitsAllLaws
import Derived.StillTailTactics
import Derived.Deep.RegionHeld3
import Derived.Laws.EntriesVeiled
import Derived.BigQuiet
import Derived.BigRegion
import Derived.Shelf.Strconv.Itoa0
import Derived.Lib.SliceRun
import Derived.Deep.AppendSrc
import Derived.Deep.Upon
namespace Go.Proofs.Ytglpbianmbjoeaa
open Go.RowKit BwtM SrtM PkM
set_option linter.unusedVariables false
set_option linter.unusedSimpArgs false
def pArr (lo hi : Nat) (bg : Bool) : Array Value := #[.int .i64 (lo : Int), .int .i64 (hi : Int), .bool bg]
section
variable {B : Nat} {b bo bc ba n : Nat} {vk vw : Value} {kb : List Nat} {S : SS}
def halvesS (S : SS) (ps : List Part) (p : Part) : SS := { S with ps := ps ++ [⟨p.lo, p.hi, true⟩] ++ [⟨p.mid, p.hi, false⟩] ++ [⟨p.lo, p.mid, false⟩] }
end
end Go.Proofs.Ytglpbianmbjoeaa
namespace Go.Proofs.Ytglpbianmbjoeaa
open Go.RowKit
set_option linter.unusedVariables false
/-- A builtin copy whose run is known. -/
theorem wpList_copyRun {P : Program} {ops : Array Oper} {rest : List Oper} {o : Oper} {a : Act} {w : World} {Q : Exit → Act → World → Prop} (hgd : o.guard = none) (d s : Operand) (t t' : TypeId)
    (ho : o.op = .call { callee := .builtin .copy, args := #[d, s], argTypes := #[t, t'] }) (v u : Value) (hd : a.eval d = v) (hs : a.eval s = u) {v' : Value} {w' : World}
    (hr : (Builtin.copy_ #[t, t'] o.type #[v, u]).run P w = .ok v' w') (h : wpList P ops Q rest (a.put o.dst v') w') : wpList P ops Q (o :: rest) a w :=
  wpList_plain hgd fun K hK => by
    unfold Oper.wp execOp
    simp only [ho, resolve, invoke, builtin, Sem.run_bind, Sem.run_pure, Result.andThen_ok, List.map_toArray, List.map_cons, List.map_nil, hd, hs, hr]
    exact hK _ _ h
/-! ### slices.Repeat -/
def fill (x : Int) (n k : Nat) : List Int := List.replicate k x ++ List.replicate (n - k) 0
theorem fill_len (x : Int) (n k : Nat) (h : k ≤ n) : (fill x n k).length = n := by unfold fill; simp; omega
theorem fill_get (x : Int) (n k j : Nat) (h : j < k) : (fill x n k)[j]? = some x := by
  unfold fill
  rw [List.getElem?_append_left (by simp; exact h)]
  simp [h]
theorem fill_zero (x : Int) (n : Nat) : fill x n 0 = List.replicate n 0 := by simp [fill]
theorem fill_all (x : Int) (n : Nat) : fill x n n = List.replicate n x := by simp [fill]
theorem fill_step (x : Int) (n k m : Nat) (h : k + m ≤ n) : (fill x n k).take k ++ List.replicate m x ++ (fill x n k).drop (k + m) = fill x n (k + m) := by
  unfold fill
  rw [List.take_append_of_le_length (by simp), List.take_of_length_le (by simp), List.drop_append, List.length_replicate, List.drop_of_length_le (by simp)]
  rw [show k + m - k = m by omega, List.drop_replicate, List.nil_append, List.replicate_append_replicate, show n - k - m = n - (k + m) by omega]
set_option maxRecDepth 100000 in
theorem copy_fill (W : World) (ty g n k : Nat) (x : Int) (sb so sl sc m : Nat) (hR : RowI W g (fill x n k)) (hk : k ≤ n) (hm : m = min sl (n - k)) (hs : ∀ j, j < m → W.cell? ⟨sb, so + j, none⟩ = some (.int .i64 x)) :
    ∃ cs, (Builtin.copy_ #[27, 27] ty #[.slice (some ⟨g, k, none⟩) (n - k) (n - k), .slice (some ⟨sb, so, none⟩) sl sc]).run Try.prog W = .ok (.int .i64 (m : Int)) (W.setRow g cs) ∧ RowI (W.setRow g cs) g (fill x n (k + m)) := by
  have h := run_copy_row (P := Try.prog) W 27 27 ty 3 g k (n - k) (n - k) ⟨sb, so, none⟩ sl sc _ 3 (List.replicate m (iv64 x)) Try.underlying27 (by kernel_rfl) hR (by rw [List.length_replicate, hm]) (fun j v hj => by
    rw [List.getElem?_replicate] at hj
    split at hj
    · cases hj
      rename_i hjm
      rw [Addr.add_lit]
      exact hs j hjm
    · cases hj) (by rw [List.length_replicate]; simp [fill]; omega) (fun v hv => by rw [List.eq_of_mem_replicate hv]; rfl)
  rw [List.length_replicate] at h
  refine ⟨_, h, ?_⟩
  have h2 := setRow_heap W g _ (((fill x n k).map iv64).toArray.toList.take k ++ List.replicate m (iv64 x) ++ ((fill x n k).map iv64).toArray.toList.drop (k + m)).toArray 3 (0, 0) hR
  unfold RowI
  rw [h2]
  congr 2
  apply Array.toList_inj.1
  show ((fill x n k).map iv64).take k ++ List.replicate m (iv64 x) ++ ((fill x n k).map iv64).drop (k + m) = (fill x n (k + m)).map iv64
  rw [← fill_step x n k m (by omega), List.map_append, List.map_append, List.map_take, List.map_drop, List.map_replicate]
end Go.Proofs.Ytglpbianmbjoeaa
namespace Go.Proofs.Ytglpbianmbjoeaa
open Go.RowKit BwtM SrtM PkM
set_option linter.unusedVariables false
set_option linter.unusedSimpArgs false
theorem isl_lh (g lo hi n : Nat) (h1 : lo ≤ hi) (h2 : hi ≤ n) (h3 : lo < n) (hn : n ≤ 1000000) (W : World) : (Instr.slice 27 (.slice (some ⟨g, 0, none⟩) n n) (some (.int .i64 (lo : Int))) (some (.int .i64 (hi : Int))) none).run Try.prog W = .ok (.slice (some ⟨g, lo, none⟩) (hi - lo) (n - lo)) W := by
  have hs : (sizeOf (Try.prog.elem 27)).run Try.prog W = .ok 1 W := by kernel_rfl
  rw [run_slice_lh W 27 (some ⟨g, 0, none⟩) n n (by kernel_rfl) .i64 .i64 _ _ (by omega) (by omega) (by omega), hs]
  have e1 : ((lo : Int)).toNat = lo := by omega
  have e2 : ((hi : Int)).toNat = hi := by omega
  have e3 : ¬ n = lo := by omega
  simp [Result.andThen, sliced, e1, e2, e3, Addr.add]
  intro h
  omega
theorem isl_l (g lo n : Nat) (h3 : lo < n) (hn : n ≤ 1000000) (W : World) : (Instr.slice 27 (.slice (some ⟨g, 0, none⟩) n n) (some (.int .i64 (lo : Int))) none none).run Try.prog W = .ok (.slice (some ⟨g, lo, none⟩) (n - lo) (n - lo)) W := by
  have hs : (sizeOf (Try.prog.elem 27)).run Try.prog W = .ok 1 W := by kernel_rfl
  rw [run_slice_l W 27 (some ⟨g, 0, none⟩) n n (by kernel_rfl) .i64 _ (by omega) (by omega), hs]
  have e1 : ((lo : Int)).toNat = lo := by omega
  have e3 : ¬ n = lo := by omega
  simp [Result.andThen, sliced, e1, e3, Addr.add]
  intro h
  omega
theorem isl_h (g off m len cap : Nat) (h : m ≤ len) (hc : len ≤ cap) (hn : cap ≤ 1000000) (W : World) : (Instr.slice 27 (.slice (some ⟨g, off, none⟩) len cap) none (some (.int .i64 (m : Int))) none).run Try.prog W = .ok (.slice (some ⟨g, off, none⟩) m cap) W := by
  have hs : (sizeOf (Try.prog.elem 27)).run Try.prog W = .ok 1 W := by kernel_rfl
  rw [run_slice_h W 27 (some ⟨g, off, none⟩) len cap (by kernel_rfl) .i64 _ (by omega) (by omega), hs]
  have e1 : ((m : Int)).toNat = m := by omega
  simp [Result.andThen, sliced, e1, Addr.add]
set_option maxRecDepth 100000 in
/-- 'copy' of m numbers of ys from place so on into the row zs from place k on. -/
theorem copy_ints (W : World) (ty g n k sb so sc m : Nat) (zs ys : List Int) (hR : RowI W g zs) (hz : zs.length = n) (hY : RowI W sb ys) (hk : k + m ≤ n) (hs : so + m ≤ ys.length) :
    ∃ cs, (Builtin.copy_ #[27, 27] ty #[.slice (some ⟨g, k, none⟩) (n - k) (n - k), .slice (some ⟨sb, so, none⟩) m sc]).run Try.prog W = .ok (.int .i64 (m : Int)) (W.setRow g cs) ∧ RowI (W.setRow g cs) g (zs.take k ++ (ys.drop so).take m ++ zs.drop (k + m)) := by
  have hm : ((ys.drop so).take m).length = m := by rw [List.length_take, List.length_drop]; omega
  have h := run_copy_row (P := Try.prog) W 27 27 ty 3 g k (n - k) (n - k) ⟨sb, so, none⟩ m sc _ 3 (((ys.drop so).take m).map iv64) Try.underlying27 (by kernel_rfl) hR (by rw [List.length_map, hm]; exact (Nat.min_eq_left (by omega)).symm) (fun j v hj => by
    rw [List.getElem?_map] at hj
    have hjm : j < m := by
      rcases Nat.lt_or_ge j m with c | c
      · exact c
      · rw [List.getElem?_eq_none (by omega)] at hj
        cases hj
    rw [List.getElem?_take_of_lt hjm, List.getElem?_drop] at hj
    have hl : so + j < ys.length := by omega
    rw [List.getElem?_eq_getElem hl] at hj
    rw [Addr.add_lit, (hY.cell hl).1, List.getD_eq_getElem?_getD, List.getElem?_eq_getElem hl]
    exact hj) (by rw [List.length_map, hm]; simp; omega) (fun v hv => by
    obtain ⟨x, _, rfl⟩ := List.mem_map.1 hv
    rfl)
  rw [List.length_map, hm] at h
  refine ⟨_, h, ?_⟩
  have h2 := setRow_heap W g _ ((zs.map iv64).toArray.toList.take k ++ ((ys.drop so).take m).map iv64 ++ (zs.map iv64).toArray.toList.drop (k + m)).toArray 3 (0, 0) hR
  unfold RowI
  rw [h2]
  congr 2
  apply Array.toList_inj.1
  show (zs.map iv64).take k ++ ((ys.drop so).take m).map iv64 ++ (zs.map iv64).drop (k + m) = (zs.take k ++ (ys.drop so).take m ++ zs.drop (k + m)).map iv64
  simp only [List.map_append, List.map_take, List.map_drop]
theorem touch_setRow {b : Nat} {w0 w : World} (h : Touch (· = b) w0 w) (cs : Array Value) : Touch (· = b) w0 (w.setRow b cs) :=
  ⟨h.os, h.tape, h.output, by rw [setRow_size]; exact h.size, fun i hi hs => (setRow_other _ _ i _ (fun e => hs (by omega))).trans (h.block i hi hs)⟩
def layS (S : SS) (lo g : Nat) : SS := { S with asd := S.asd.take S.laid ++ (S.ord.drop (lo + S.laid)).take g ++ S.asd.drop (S.laid + g), laid := S.laid + g }
section
variable {B : Nat} {b bo bc ba n : Nat} {vk vw : Value} {kb : List Nat} {S : SS}
end
end Go.Proofs.Ytglpbianmbjoeaa
namespace Go.Proofs.Ytglpbianmbjoeaa
open Go.RowKit BwtM SrtM PkM
set_option linter.unusedVariables false
/-- What the classes' key has caught. -/
structure Caught16 (w : World) (g1 g2 g3 bc n r : Nat) : Prop where
  c1 : w.cell? ⟨g1, 0, none⟩ = some (.int .i64 ((r % n : Nat) : Int))
  c2 : w.cell? ⟨g2, 0, none⟩ = some (.int .i64 (n : Int))
  c3 : w.cell? ⟨g3, 0, none⟩ = some (.slice (some ⟨bc, 0, none⟩) n n)
end Go.Proofs.Ytglpbianmbjoeaa
namespace Go.Proofs.Ytglpbianmbjoeaa
open Go.RowKit BwtM PkM
set_option linter.unusedVariables false
/-- Where an insertion stands: nx is laid, l is still to be looked at. -/
def InsAt (T : List UInt8) (i : Nat) (L nx l : List Nat) (put : Bool) : Prop := (put = true ∧ nx ++ l = insP T i L) ∨ (put = false ∧ nx ++ insP T i l = insP T i L)
theorem InsAt.start (T : List UInt8) (i : Nat) (L : List Nat) : InsAt T i L [] L false := Or.inr ⟨rfl, rfl⟩
theorem InsAt.go {T : List UInt8} {i x : Nat} {L nx l : List Nat} {put : Bool} (h : InsAt T i L nx (x :: l) put) :
    (put = true ∧ InsAt T i L (nx ++ [x]) l true) ∨ (put = false ∧ Ahead T i x ∧ InsAt T i L (nx ++ [i] ++ [x]) l true) ∨ (put = false ∧ ¬ Ahead T i x ∧ InsAt T i L (nx ++ [x]) l false) := by
  rcases h with ⟨rfl, h⟩ | ⟨rfl, h⟩
  · exact Or.inl ⟨rfl, Or.inl ⟨rfl, by rw [← h]; simp⟩⟩
  · by_cases ha : Ahead T i x
    · refine Or.inr (Or.inl ⟨rfl, ha, Or.inl ⟨rfl, ?_⟩⟩)
      rw [← h, insP, if_pos ha]
      simp
    · refine Or.inr (Or.inr ⟨rfl, ha, Or.inr ⟨rfl, ?_⟩⟩)
      rw [← h, insP, if_neg ha]
      simp
theorem InsAt.last {T : List UInt8} {i : Nat} {L nx : List Nat} {put : Bool} (h : InsAt T i L nx [] put) : (put = true ∧ nx = insP T i L) ∨ (put = false ∧ nx ++ [i] = insP T i L) := by
  rcases h with ⟨rfl, h⟩ | ⟨rfl, h⟩
  · exact Or.inl ⟨rfl, by rw [← h, List.append_nil]⟩
  · exact Or.inr ⟨rfl, by rw [← h]; rfl⟩
theorem sortP_length (T : List UInt8) (k : Nat) : (sortP T k).length = k := by rw [(sortP_perm T k).length_eq, List.length_range]
theorem sortP_lt {T : List UInt8} {k x : Nat} (h : x ∈ sortP T k) : x < k := List.mem_range.1 ((sortP_perm T k).mem_iff.1 h)
set_option maxRecDepth 100000 in
set_option maxHeartbeats 4000000 in
theorem rsorted_any (s : ByteArray) (w : World) (hs : s.size ≤ 1000000) :
    Calls Try.prog 28 #[.string s] w fun e w' => ∃ v, e = .returned v ∧ OwnI w' w.heap.size v (toI (sortP s.data.toList s.size)) ∧ Below w.heap.size w w' := by
  have HAH := Lib.hid (fun i k r W (hi : i < s.size) (hk : k < s.size) hr => rahead_any s i k r W (by omega) hi hk hr)
  obtain ⟨n, hn⟩ : ∃ n, s.size = n := ⟨_, rfl⟩
  have HN := Lib.hid hn
  rw [hn] at hs HAH
  go_enter Try.func28, Try.ntmps28
  go_wp2_with fail
  go_loopw [3, 11] (fun vo vi wr => ∃ (i : Nat) (v : Value), vi = .int .i64 (i : Int) ∧ v = vo ∧ i ≤ n ∧ OwnI wr w.heap.size v (toI (sortP s.data.toList i)) ∧ Below w.heap.size w wr) (fun _ vi _ => n - (intOf vi).toNat)
  case atStart => exact ⟨0, _, rfl, rfl, by omega, OwnI.nil _ _, Below.refl _ _⟩
  case round =>
    obtain ⟨i, v, rfl, rfl, hi, hO, hB⟩ := hrel
    have HO := Lib.hid hO
    have HB := Lib.hid hB
    have HBS := Lib.hid hB.size
    clear hO hB
    by_cases hin : i < n
    · have hii : (i : Int) < (n : Int) := by omega
      obtain ⟨oa, oc, rfl⟩ := HO.out.slice
      have hlen : (toI (sortP s.data.toList i)).length = i := by rw [toI_length, sortP_length]
      rw [hlen] at HO ⊢
      have HLEN := Lib.hid hlen
      clear hlen
      go_wp2_with fail
      obtain ⟨wa, rfl⟩ : ∃ wa : World, wa = wr := ⟨_, rfl⟩
      go_loopw [5, 6, 16] (fun vx vp vj wr => ∃ (j : Nat) (u : Value) (nx : List Nat) (put : Bool), vj = .int .i64 (j : Int) ∧ u = vx ∧ vp = .bool put ∧ j ≤ i ∧ nx.length ≤ 2 * j ∧ InsAt s.data.toList i (sortP s.data.toList i) nx ((sortP s.data.toList i).drop j) put ∧ OwnI wr wa.heap.size u (toI nx) ∧ Below wa.heap.size wa wr) (fun _ _ vj _ => i - (intOf vj).toNat)
      case atStart => exact ⟨0, _, [], false, rfl, rfl, rfl, by omega, by simp, InsAt.start _ _ _, OwnI.nil _ _, Below.refl _ _⟩
      case round =>
        obtain ⟨j, u, nx, put, rfl, rfl, rfl, hj, hnx, hI, hU, hBI⟩ := hrel
        have HI := Lib.hid hI
        have HU := Lib.hid hU
        have HBI := Lib.hid hBI
        have HBIS := Lib.hid hBI.size
        have hl1 : (toI nx).length + 1 ≤ 17592186044416 := by rw [toI_length]; omega
        clear hI hU hBI
        by_cases hji : j < i
        · have hjii : (j : Int) < (i : Int) := by omega
          have HV2 := Lib.hid (HO.out.ints.below (HBI.out.mono (Nat.le_refl _)))
          obtain ⟨b1, o1, k1, he1, c1⟩ := HV2.out.cell (show j < (toI (sortP s.data.toList i)).length by rw [HLEN.out]; exact hji)
          rw [HLEN.out] at he1
          simp only [Value.slice.injEq] at he1
          obtain ⟨rfl, _, rfl⟩ := he1
          rw [toI_getD] at c1
          have hjl : j < (sortP s.data.toList i).length := by rw [sortP_length]; exact hji
          have hdr : (sortP s.data.toList i).drop j = (sortP s.data.toList i).getD j 0 :: (sortP s.data.toList i).drop (j + 1) := by
            rw [List.getD_eq_getElem?_getD, List.getElem?_eq_getElem hjl]
            exact List.drop_eq_getElem_cons hjl
          have hxl : (sortP s.data.toList i).getD j 0 < i := sortP_lt (by
            rw [List.getD_eq_getElem?_getD, List.getElem?_eq_getElem hjl]
            exact List.getElem_mem hjl)
          rw [hdr] at HI
          obtain ⟨x, hx⟩ : ∃ x, (sortP s.data.toList i).getD j 0 = x := ⟨_, rfl⟩
          rw [hx] at HI c1 hxl
          have hgo := HI.out.go
          clear hdr hx hjl
          rcases hgo with ⟨rfl, hgo⟩ | ⟨rfl, ha, hgo⟩ | ⟨rfl, ha, hgo⟩
          · have HGO := Lib.hid hgo
            clear hgo
            go_wp2_with (at_builtin; refine push_int wr rfl _ _ rfl wa.heap.size _ (toI nx) (x : Int) HU.out rfl rfl hl1 HBIS.out ?_)
            intro u2 w2 hO2 hB2
            have HU2 : Hid (OwnI w2 wa.heap.size u2 (toI (nx ++ [x]))) := Lib.hid (by rw [toI_app]; exact hO2)
            have HB2 := Lib.hid (HBI.out.trans hB2)
            clear hO2 hB2
            go_wp2_with fail
            go_roundw
            case rel => exact ⟨j + 1, u2, nx ++ [x], true, by go_num, rfl, rfl, by omega, by simp; omega, HGO.out, HU2.out, HB2.out⟩
            case measure => simp [intOf]; omega
          · have HGO := Lib.hid hgo
            have HA := Lib.hid (HAH.out i x true wr hin (by omega) ⟨fun _ => ha, fun _ => rfl⟩)
            clear hgo ha
            go_wp2_with fail
            refine HA.out.mono ?_
            rintro e w1 ⟨rfl, hb1⟩
            have HU1 := Lib.hid (HU.out.below hb1)
            have HB1 := Lib.hid (HBI.out.trans (hb1.mono HBI.out.size))
            have HBS1 := Lib.hid HB1.out.size
            have HV3 := Lib.hid (HV2.out.below hb1)
            clear hb1
            go_wp2_with (at_builtin; refine push_int w1 rfl _ _ rfl wa.heap.size _ (toI nx) (i : Int) HU1.out rfl rfl hl1 HBS1.out ?_)
            intro u2 w2 hO2 hB2
            have HU2 : Hid (OwnI w2 wa.heap.size u2 (toI (nx ++ [i]))) := Lib.hid (by rw [toI_app]; exact hO2)
            have HB2 := Lib.hid (HB1.out.trans hB2)
            have HBS2 := Lib.hid HB2.out.size
            have hl2 : (toI (nx ++ [i])).length + 1 ≤ 17592186044416 := by rw [toI_length, List.length_append, List.length_singleton]; omega
            clear hO2 hB2
            go_wp2_with (at_builtin; refine push_int w2 rfl _ _ rfl wa.heap.size _ (toI (nx ++ [i])) (x : Int) HU2.out rfl rfl hl2 HBS2.out ?_)
            intro u3 w3 hO3 hB3
            have HU3 : Hid (OwnI w3 wa.heap.size u3 (toI (nx ++ [i] ++ [x]))) := Lib.hid (by rw [toI_app (nx ++ [i])]; exact hO3)
            have HB3 := Lib.hid (HB2.out.trans hB3)
            clear hO3 hB3
            go_wp2_with fail
            go_roundw
            case rel => exact ⟨j + 1, u3, nx ++ [i] ++ [x], true, by go_num, rfl, rfl, by omega, by simp; omega, HGO.out, HU3.out, HB3.out⟩
            case measure => simp [intOf]; omega
          · have HGO := Lib.hid hgo
            have HA := Lib.hid (HAH.out i x false wr hin (by omega) ⟨fun e => (by cases e), fun e => absurd e ha⟩)
            clear hgo ha
            go_wp2_with fail
            refine HA.out.mono ?_
            rintro e w1 ⟨rfl, hb1⟩
            have HU1 := Lib.hid (HU.out.below hb1)
            have HB1 := Lib.hid (HBI.out.trans (hb1.mono HBI.out.size))
            have HBS1 := Lib.hid HB1.out.size
            clear hb1
            go_wp2_with (at_builtin; refine push_int w1 rfl _ _ rfl wa.heap.size _ (toI nx) (x : Int) HU1.out rfl rfl hl1 HBS1.out ?_)
            intro u2 w2 hO2 hB2
            have HU2 : Hid (OwnI w2 wa.heap.size u2 (toI (nx ++ [x]))) := Lib.hid (by rw [toI_app]; exact hO2)
            have HB2 := Lib.hid (HB1.out.trans hB2)
            clear hO2 hB2
            go_wp2_with fail
            go_roundw
            case rel => exact ⟨j + 1, u2, nx ++ [x], false, by go_num, rfl, rfl, by omega, by simp; omega, HGO.out, HU2.out, HB2.out⟩
            case measure => simp [intOf]; omega
        · have hjii : ¬ (j : Int) < (i : Int) := by omega
          have hl := HI.out
          rw [List.drop_of_length_le (by rw [sortP_length]; omega)] at hl
          have HBT : Hid (Below w.heap.size w wr) := Lib.hid (HB.out.trans (HBI.out.mono HB.out.size))
          have hq := hl.last
          clear hl
          rcases hq with ⟨rfl, hq⟩ | ⟨rfl, hq⟩
          · have HU2 : Hid (OwnI wr w.heap.size u (toI (sortP s.data.toList (i + 1)))) := Lib.hid (by
              rw [show sortP s.data.toList (i + 1) = nx from hq.symm]
              exact HU.out.lower HBS.out)
            clear hq
            go_wp2_with fail
            go_roundw
            case rel => exact ⟨i + 1, u, by go_num, rfl, by omega, HU2.out, HBT.out⟩
            case measure => simp [intOf]; omega
          · have HL : Hid (nx ++ [i] = sortP s.data.toList (i + 1)) := Lib.hid hq
            clear hq
            go_wp2_with (at_builtin; refine push_int wr rfl _ _ rfl wa.heap.size _ (toI nx) (i : Int) HU.out rfl rfl hl1 HBIS.out ?_)
            intro u2 w2 hO2 hB2
            have HU2 : Hid (OwnI w2 w.heap.size u2 (toI (sortP s.data.toList (i + 1)))) := Lib.hid (by
              rw [← HL.out, toI_app]
              exact OwnI.lower hO2 HBS.out)
            have HB2 : Hid (Below w.heap.size w w2) := Lib.hid (HBT.out.trans (hB2.mono HBS.out))
            clear hO2 hB2
            go_wp2_with fail
            go_roundw
            case rel => exact ⟨i + 1, u2, by go_num, rfl, by omega, HU2.out, HB2.out⟩
            case measure => simp [intOf]; omega
    · have hii : ¬ (i : Int) < (n : Int) := by omega
      obtain rfl : i = n := by omega
      go_wp2_with fail
      go_ret
      exact ⟨_, rfl, HO.out, HB.out⟩
end Go.Proofs.Ytglpbianmbjoeaa
namespace Go.Proofs.Ytglpbianmbjoeaa
open Go.RowKit BwtM PkM
set_option linter.unusedVariables false
/-- Ranks of the places P, among N. -/
def RkP (N : Nat) (P : List Nat) (L : List Int) : Prop := P.Nodup ∧ (∀ x ∈ P, x < N) ∧ L.length = N ∧ ∀ p, p < N → L.getD p 0 = if p ∈ P then (P.idxOf p : Int) else -1
theorem RkP.start (N : Nat) : RkP N [] (List.replicate N (-1)) := ⟨List.nodup_nil, by simp, by simp, fun p hp => by simp [List.getD_eq_getElem?_getD, hp]⟩
theorem RkP.next {N : Nat} {P : List Nat} {L : List Int} {x : Nat} (h : RkP N P L) (hx : x < N) (hn : L.getD x 0 = -1) : RkP N (P ++ [x]) (L.set x (P.length : Int)) := by
  obtain ⟨h1, h2, h3, h4⟩ := h
  have hxP : x ∉ P := fun hm => by
    have := h4 x hx
    rw [if_pos hm, hn] at this
    omega
  refine ⟨?_, ?_, by rw [List.length_set, h3], fun p hp => ?_⟩
  · rw [List.nodup_append]
    exact ⟨h1, by simp, fun a ha b hb => by
      rw [List.mem_singleton] at hb
      subst hb
      rintro rfl
      exact hxP ha⟩
  · intro y hy
    rcases List.mem_append.1 hy with hy | hy
    · exact h2 y hy
    · rw [List.mem_singleton] at hy; rw [hy]; exact hx
  · rw [List.getD_eq_getElem?_getD, List.getElem?_set]
    by_cases e : x = p
    · subst e
      rw [if_pos rfl, if_pos (by rw [h3]; exact hx), if_pos (by simp), List.idxOf_append, if_neg hxP]
      simp
    · rw [if_neg e, ← List.getD_eq_getElem?_getD, h4 p hp, List.idxOf_append]
      by_cases hm : p ∈ P
      · rw [if_pos hm, if_pos (List.mem_append_left _ hm), if_pos hm]
      · rw [if_neg hm, if_neg (by simp [hm]; exact fun h => e h.symm)]
theorem RkP.some {N : Nat} {P : List Nat} {L : List Int} {x : Nat} (h : RkP N P L) (hx : x < N) (hn : L.getD x 0 ≠ -1) : x ∈ P := by
  by_cases hm : x ∈ P
  · exact hm
  · exact absurd (by rw [h.2.2.2 x hx, if_neg hm]) hn
theorem RkP.rank {N : Nat} {P : List Nat} {L : List Int} (h : RkP N P L) (hl : P.length = N) {j : Nat} (hj : j < N) : L.getD (P.getD j 0) 0 = (j : Int) := by
  have hj2 : j < P.length := by omega
  have e : P.getD j 0 = P[j] := by rw [List.getD_eq_getElem?_getD, List.getElem?_eq_getElem hj2]; rfl
  rw [e, h.2.2.2 _ (h.2.1 _ (List.getElem_mem hj2)), if_pos (List.getElem_mem hj2), h.1.idxOf_getElem]
theorem RkP.perm {N : Nat} {P : List Nat} {L : List Int} (h : RkP N P L) (hl : P.length = N) : P.Perm (List.range N) := perm_range N P h.1 h.2.1 hl
theorem RkP.in {N : Nat} {P : List Nat} {L : List Int} (h : RkP N P L) (hl : P.length = N) {p : Nat} (hp : p < N) : 0 ≤ L.getD p 0 ∧ L.getD p 0 < (N : Int) := by
  have hm : p ∈ P := (h.perm hl).mem_iff.2 (List.mem_range.2 hp)
  rw [h.2.2.2 p hp, if_pos hm]
  have := List.idxOf_lt_length_of_mem hm
  omega
theorem RkP.ranks {N : Nat} {P : List Nat} {L : List Int} (h : RkP N P L) (hl : P.length = N) : Ranks N (fun j => P.getD j 0) (fun i => (L.getD i 0).toNat) := ranks_of (h.perm hl) (fun j hj => by rw [h.rank hl hj]; rfl)
/-- No order of N places. -/
def NoPerm (zs : List Int) (N : Nat) : Prop := ¬ ∃ P : List Nat, P.Perm (List.range N) ∧ zs = toI P
/-- What ranked tells. -/
def RankedP (w w' : World) (zs : List Int) (N : Nat) (e : Ending) : Prop :=
  (e = .returned (.tuple #[.slice none 0 0, .bool false]) ∧ NoPerm zs N) ∨
      ∃ g P L, e = .returned (.tuple #[.slice (some ⟨g, 0, none⟩) N N, .bool true]) ∧ w.heap.size ≤ g ∧ RowI w' g L ∧ RkP N P L ∧ P.length = N ∧ zs = toI P
/-- Such rows are no order. -/
theorem not_perm_far {zs : List Int} {N j : Nat} (hj : j < zs.length) (h : zs.getD j 0 < 0 ∨ (N : Int) ≤ zs.getD j 0) : NoPerm zs N := by
  rintro ⟨P, hP, rfl⟩
  rw [toI_length] at hj
  rw [toI_getD] at h
  have := perm_getD hP (j := j) (by rw [← perm_len hP]; exact hj)
  omega
theorem not_perm_twice {zs : List Int} {N j x : Nat} {P : List Nat} (hj : j < zs.length) (ht : zs.take j = toI P) (hx : zs.getD j 0 = (x : Int)) (hm : x ∈ P) : NoPerm zs N := by
  rintro ⟨Q, hQ, rfl⟩
  rw [toI_length] at hj
  rw [toI_getD] at hx
  have e : Q.take j = P := toI_inj.1 (by rw [← ht]; unfold toI; rw [List.map_take])
  have hd : Q.Nodup := hQ.nodup_iff.2 List.nodup_range
  rw [← e] at hm
  have hxe : Q.getD j 0 = x := by omega
  rw [List.getD_eq_getElem?_getD, List.getElem?_eq_getElem hj] at hxe
  rw [← List.take_append_drop j Q, List.nodup_append] at hd
  exact hd.2.2 x hm x (by rw [List.drop_eq_getElem_cons hj]; exact hxe ▸ List.mem_cons_self ..) rfl
end Go.Proofs.Ytglpbianmbjoeaa
namespace Go.Proofs.Ytglpbianmbjoeaa
open Go.RowKit BwtM PkM
set_option linter.unusedVariables false
/-- A quiet call behind other draws. -/
theorem quiet_more {P : Program} {f : FuncId} {args : Array Value} {w : World} {a n : Nat} {v : Value} (h : Calls P f args (w.drewN (a + n)) fun e w' => e = .returned v ∧ ∃ m, w' = (w.drewN (a + n)).drewN m) :
    Calls P f args (w.drewN (a + n)) fun e w'' => e = .returned v ∧ ∃ m, w'' = w.drewN (a + m) :=
  h.mono fun _ _ ⟨he, m, hm⟩ => ⟨he, n + m, by rw [hm, World.drewN_drewN, Nat.add_assoc]⟩
theorem quiet_more_same {P : Program} {f : FuncId} {args : Array Value} {w : World} {a n : Nat} {v : Value} (h : Calls P f args (w.drewN (a + n)) fun e w' => e = .returned v ∧ w' = w.drewN (a + n)) :
    Calls P f args (w.drewN (a + n)) fun e w'' => e = .returned v ∧ ∃ m, w'' = w.drewN (a + m) :=
  h.mono fun _ _ ⟨he, hm⟩ => ⟨he, n, hm⟩
def PerP (T : List UInt8) (n p : Nat) : Prop := (n = 0 → p = 0) ∧ (0 < n → IsPeriod T p)
/-- The rank of a place. -/
def rk (L : List Int) (i : Nat) : Nat := (L.getD i 0).toNat
theorem follow_cases {T : List UInt8} {R : Nat → Nat} {p c i k : Nat} {r : Bool} (hr : r = true ↔ Follow T R p c i k) :
    (R i / c = R k / c ∧ (r = true ↔ k = i + p)) ∨ (R i / c ≠ R k / c ∧ bt T i ≠ bt T k ∧ (r = true ↔ bt T i < bt T k)) ∨ (R i / c ≠ R k / c ∧ bt T i = bt T k ∧ (r = true ↔ R ((i + 1) % T.length) / c < R ((k + 1) % T.length) / c)) := by
  unfold Follow at hr
  by_cases h1 : R i / c = R k / c
  · refine Or.inl ⟨h1, hr.trans ⟨fun h => h.1 h1, fun h => ⟨fun _ => h, fun h2 => absurd h1 h2, fun h2 => absurd h1 h2⟩⟩⟩
  · by_cases h2 : bt T i = bt T k
    · exact Or.inr (Or.inr ⟨h1, h2, hr.trans ⟨fun h => h.2.2 h1 h2, fun h => ⟨fun h3 => absurd h3 h1, fun _ h3 => absurd h2 h3, fun _ _ => h⟩⟩⟩)
    · exact Or.inr (Or.inl ⟨h1, h2, hr.trans ⟨fun h => h.2.1 h1 h2, fun h => ⟨fun h3 => absurd h3 h1, fun _ _ => h, fun _ h3 => absurd h3 h2⟩⟩⟩)
end Go.Proofs.Ytglpbianmbjoeaa
namespace Go.Proofs.Ytglpbianmbjoeaa
open Go.RowKit BwtM SrtM PkM
set_option linter.unusedVariables false
set_option linter.unusedSimpArgs false
section
variable {B : Nat} {b bo bc ba n : Nat} {vk vw : Value} {kb : List Nat} {S : SS}
/-- What putting leaves as it was. -/
structure PutSame (S S' : SS) : Prop where
  cls : S'.cls = S.cls
  asd : S'.asd = S.asd
  reach : S'.reach = S.reach
  ps : S'.ps = S.ps
  laid : S'.laid = S.laid
  made : S'.made = S.made
  steps : S'.steps = S.steps
theorem PutSame.refl (S : SS) : PutSame S S := ⟨rfl, rfl, rfl, rfl, rfl, rfl, rfl⟩
theorem KbSame.trans {w w1 w2 : World} {kb : List Nat} (h : KbSame w w1 kb) (g : KbSame w1 w2 kb) : KbSame w w2 kb := fun x hx => (g x hx).trans (h x hx)
theorem touch_two16 {wr : World} (i j : Nat) (x y : Value) : Touch (fun k => k = bo ∨ k = b) wr ((wr.setCell ⟨bo, i, none⟩ x).setCell ⟨b, j, none⟩ y) := by
  have t1 : Touch (· = bo) wr (wr.setCell ⟨bo, i, none⟩ x) := touch_cell (Touch.refl _ _)
  have t2 : Touch (· = b) (wr.setCell ⟨bo, i, none⟩ x) ((wr.setCell ⟨bo, i, none⟩ x).setCell ⟨b, j, none⟩ y) := touch_cell (Touch.refl _ _)
  exact (t1.mono (fun _ h => Or.inl h)).trans (t2.mono (fun _ h => Or.inr h)) (fun _ h => Or.inl h)
end
end Go.Proofs.Ytglpbianmbjoeaa
namespace Go.Proofs.Ytglpbianmbjoeaa
open Go.RowKit BwtM SrtM PkM
set_option linter.unusedVariables false
set_option linter.unusedSimpArgs false
/-- A pass sorts, or makes classes. -/
def Due (T : List UInt8) (K : Nat → Nat) (S : SS) (n R : Nat) : Prop :=
  (∃ ps p A m, Srt T K S ps p A m R ∧ (p.begun = true → S.first + S.second < p.hi - p.lo)) ∨ ∃ m, Num T K S m R ∧ S.made < n
theorem Due.pos {T : List UInt8} {K : Nat → Nat} {S : SS} {n R : Nat} (h : Due T K S n R) (hT : T.length = n) (h0 : 0 < n) : 0 < R := by
  rcases h with ⟨ps, p, A, m, h, hp⟩ | ⟨m, h, hm⟩
  · have hl := h.left
    rw [costs_app] at hl
    have hf := h.fit
    rcases h.top with ⟨_, e1, e2, e3, _⟩ | ⟨hb, _⟩
    · rw [e1, e2, e3] at hl
      omega
    · have hbd := h.bounds hb
      have hla := (h.on hb).2.1
      rw [h.cost_on hb] at hl
      omega
  · have := h.left
    omega
theorem KbSame.refl (w : World) (kb : List Nat) : KbSame w w kb := fun _ _ => rfl
theorem KbSame.part {w w' : World} {kb Z : List Nat} (h : KbSame w w' (kb ++ Z)) : KbSame w w' Z := fun g hg => h g (List.mem_append_right _ hg)
def swapS (S : SS) : SS := { S with cls := S.asd, asd := S.cls, made := 0 }
section
variable {B : Nat} {b bo bc ba n : Nat} {vk vw : Value} {kb : List Nat} {S : SS}
end
theorem KeyV.more {w : World} {vk : Value} {kb : List Nat} {bc n : Nat} {C : List Nat} {K : Nat → Nat} (h : KeyV w vk kb bc n C K) (Z : List Nat) : KeyV w vk (kb ++ Z) bc n C K := by
  obtain ⟨F, caps, h1, h2, h3⟩ := h
  exact ⟨F, caps, h1, h2, fun w' h4 h5 => h3 w' (fun g hg => h4 g (List.mem_append_left _ hg)) h5⟩
end Go.Proofs.Ytglpbianmbjoeaa
namespace Go.Proofs.Ytglpbianmbjoeaa
open Go.RowKit BwtM SrtM PkM
set_option linter.unusedVariables false
set_option linter.unusedSimpArgs false
section
variable {B : Nat} {b bo bc ba n : Nat} {vk vw : Value} {kb Z : List Nat} {S : SS}
theorem belowB_drewN (B : Nat) (w : World) (k : Nat) : Below B w (w.drewN k) := ⟨rfl, rfl, rfl, Nat.le_refl _, fun _ _ => rfl⟩
end
end Go.Proofs.Ytglpbianmbjoeaa
namespace Go.Proofs.Ytglpbianmbjoeaa
open Go.RowKit BwtM SrtM PkM
set_option linter.unusedVariables false
set_option linter.unusedSimpArgs false
section
variable {B : Nat} {b bo bc ba n : Nat} {vk vw : Value} {kb Z : List Nat} {S : SS}
/-- j more classes are made. -/
def numS (S : SS) (l : List Nat) (j : Nat) : SS := { S with asd := l, made := S.made + j }
end
end Go.Proofs.Ytglpbianmbjoeaa
namespace Go.Proofs.Ytglpbianmbjoeaa
open Go.RowKit BwtM SrtM PkM
set_option linter.unusedVariables false
set_option linter.unusedSimpArgs false
section
variable {B : Nat} {b bo bc ba n : Nat} {vk vw : Value} {kb Z : List Nat} {S : SS}
/-- Each part costs a step. -/
theorem costs_ge {T : List UInt8} {ps : List Part} (h : ∀ q ∈ ps, Fits T.length q) : ps.length ≤ costs ps := by
  induction ps with
  | nil => exact Nat.zero_le _
  | cons p ps ih =>
    have h1 := ih (fun q hq => h q (List.mem_cons_of_mem _ hq))
    have h2 : 1 ≤ p.cost := by
      obtain ⟨f1, f2, f3⟩ := h p (List.mem_cons_self ..)
      unfold Part.cost
      split
      · rename_i hb
        have := f3 hb
        omega
      · exact passS_pos _
    unfold costs at h1 ⊢
    rw [List.map_cons, List.sum_cons, List.length_cons]
    omega
theorem srt_depth {T : List UInt8} {K : Nat → Nat} {ps : List Part} {p : Part} {A : List Nat} {m R : Nat} (h : Srt T K S ps p A m R) : ps.length ≤ R + 3 * T.length := by
  have hl := h.left
  rw [costs_app] at hl
  have h1 := costs_ge (fun q hq => h.fits q (List.mem_append_left _ hq))
  have hf := h.fit
  rcases h.top with ⟨_, e1, e2, e3, _⟩ | ⟨hb, _⟩
  · omega
  · have hbd := h.bounds hb
    have hla := (h.on hb).2.1
    omega
/-- A part is done: what is due then. -/
theorem due_pop {T : List UInt8} {K : Nat → Nat} {ps : List Part} {A : List Nat} {m R : Nat} (hT : T.length = n) (h0 : 0 < n) (hz : S.laid = 0 ∧ S.first = 0 ∧ S.second = 0) (hm : S.made = 0) (h : (∃ ps2 q, ps = ps2 ++ [q] ∧ Srt T K S ps2 q A m R) ∨ (ps = [] ∧ Num T K S m R)) : Due T K S n R := by
  rcases h with ⟨ps2, q, _, h⟩ | ⟨_, h⟩
  · refine Or.inl ⟨ps2, q, A, m, h, fun hb => ?_⟩
    have := (h.fits q (by simp)).2.2 hb
    omega
  · exact Or.inr ⟨m, h, by omega⟩
theorem lay_asd {A O : List Nat} {a lo g : Nat} (ha : a + g ≤ A.length) (ho : lo + a + g ≤ O.length) :
    (∀ i, i < a → (A.take a ++ (O.drop (lo + a)).take g ++ A.drop (a + g)).getD i 0 = A.getD i 0) ∧ ∀ i, a ≤ i → i < a + g → (A.take a ++ (O.drop (lo + a)).take g ++ A.drop (a + g)).getD i 0 = O.getD (lo + i) 0 := by
  have l1 : (A.take a).length = a := by rw [List.length_take]; omega
  have l2 : ((O.drop (lo + a)).take g).length = g := by rw [List.length_take, List.length_drop]; omega
  constructor
  · intro i hi
    rw [List.append_assoc, List.getD_eq_getElem?_getD, List.getElem?_append_left (by omega), List.getElem?_take_of_lt hi, List.getD_eq_getElem?_getD]
  · intro i h1 h2
    rw [List.append_assoc, getD_app_right (by omega), l1, List.getD_eq_getElem?_getD, List.getElem?_append_left (by omega), List.getElem?_take_of_lt (by omega), List.getElem?_drop, List.getD_eq_getElem?_getD]
    congr 2
    omega
end
end Go.Proofs.Ytglpbianmbjoeaa
namespace Go.Proofs.Ytglpbianmbjoeaa
open Go.RowKit BwtM SrtM PkM
set_option linter.unusedVariables false
set_option linter.unusedSimpArgs false
section
variable {B : Nat} {b n : Nat} {Z : List Nat}
theorem Due.pos0 {T : List UInt8} {K : Nat → Nat} {S : SS} {R : Nat} (h : Due T K S n R) (hT : T.length = n) : 0 < R := by
  rcases Nat.eq_zero_or_pos n with h0 | h0
  · rcases h with ⟨ps, p, A, m, h, hp⟩ | ⟨m, h, hm⟩
    · have hl := h.left
      rw [costs_app] at hl
      have hf := h.fits p (by simp)
      have hfit := h.fit
      rcases h.top with ⟨e0, e1, e2, e3, _⟩ | ⟨hb, _⟩
      · have : 1 ≤ p.cost := by
          unfold Part.cost
          rw [e0]
          exact passS_pos _
        omega
      · have := hf.2.2 hb
        omega
    · omega
  · exact h.pos hT h0
end
end Go.Proofs.Ytglpbianmbjoeaa
namespace Go.Proofs.Ytglpbianmbjoeaa
open Go.RowKit BwtM SrtM PkM
set_option linter.unusedVariables false
set_option linter.unusedSimpArgs false
/-- How many steps there are in all. -/
def StepsOf (T : List UInt8) (R : Nat) : Prop := (T.length < 2 ∧ R = 0) ∨ (2 ≤ T.length ∧ ∃ m, Rem T 0 m ∧ R = each T.length * (m + 1))
theorem StepsOf.one {T : List UInt8} {R R' : Nat} (h : StepsOf T R) (g : StepsOf T R') : R = R' := by
  rcases h with ⟨h1, rfl⟩ | ⟨h1, m, h2, rfl⟩ <;> rcases g with ⟨g1, rfl⟩ | ⟨g1, k, g2, rfl⟩
  · rfl
  · omega
  · omega
  · rw [h2.one g2]
theorem StepsOf.le {T : List UInt8} {R b : Nat} (h : StepsOf T R) (hb : T.length ≤ 2 ^ b) : R ≤ T.length * (4 + 3 * b) * (b + 2) := by
  rcases h with ⟨h1, rfl⟩ | ⟨h1, m, h2, rfl⟩
  · exact Nat.zero_le _
  · obtain ⟨k, hk, hr⟩ := rem_zero T b hb
    rw [h2.one hr]
    exact total_le (by omega) hb hk
def zeroS (n j : Nat) : SS := { ord := List.range j ++ List.replicate (n - j) 0, cls := List.replicate n 0, asd := List.replicate n 0, reach := 0, ps := [], laid := 0, first := 0, second := 0, made := 0, steps := 0 }
theorem zeroS_next {n j : Nat} (h : j < n) : (List.range j ++ List.replicate (n - j) 0).set j j = List.range (j + 1) ++ List.replicate (n - (j + 1)) 0 := by
  rw [List.set_append_right _ _ (by rw [List.length_range]; exact Nat.le_refl _), List.length_range, Nat.sub_self, show n - j = (n - (j + 1)) + 1 by omega, List.replicate_succ, List.set_cons_zero, List.range_succ, List.append_assoc]
  rfl
theorem zero_row (w : World) (g n : Nat) (h : w.heap[g]? = some (.cells (madeCells #[.int .i64 0] n) 3)) : RowI w g (toI (List.replicate n 0)) := by
  unfold RowI
  rw [h]
  congr 2
  apply Array.toList_inj.1
  rw [toList_madeCells_one]
  simp [toI, iv64]
theorem new_ord (n : Nat) : (zeroS n n).ord = List.range n := by
  show List.range n ++ List.replicate (n - n) 0 = _
  rw [Nat.sub_self]
  simp
end Go.Proofs.Ytglpbianmbjoeaa
namespace Go.Proofs
open Go.Shelf
end Go.Proofs
namespace Go.Proofs.Ytglpbianmbjoeaa
open Go.RowKit
set_option linter.unusedVariables false
/-- The least power of two that is no less. -/
theorem bitLen_spec : ∀ (k x : Nat), x < 2 ^ k → k ≤ 64 → x < 2 ^ Lib.bitLen x ∧ (0 < x → 2 ^ (Lib.bitLen x - 1) ≤ x) := by
  intro k
  induction k with
  | zero =>
    intro x hx _
    have : x = 0 := by simpa using hx
    subst this
    exact ⟨by decide, fun h => by omega⟩
  | succ k ih =>
    intro x hx hk
    rcases Nat.eq_zero_or_pos x with rfl | h0
    · exact ⟨by decide, fun h => by omega⟩
    · have h1 := Lib.bitLen_half x (by omega) (Nat.lt_of_lt_of_le hx (Nat.pow_le_pow_right (by omega) hk))
      have h2 := ih (x / 2) (by rw [Nat.pow_succ] at hx; omega) (by omega)
      rw [h1]
      refine ⟨by rw [Nat.add_comm, Nat.pow_succ]; omega, fun _ => ?_⟩
      rw [Nat.add_sub_cancel_left]
      rcases Nat.eq_zero_or_pos (x / 2) with e | e
      · rw [e, show Lib.bitLen 0 = 0 by decide]
        exact h0
      · have h3 := h2.2 e
        have h4 : 0 < Lib.bitLen (x / 2) := by
          rcases Nat.eq_zero_or_pos (Lib.bitLen (x / 2)) with g | g
          · have := h2.1
            rw [g] at this
            simp at this
            omega
          · exact g
        have h5 : 2 ^ Lib.bitLen (x / 2) = 2 ^ (Lib.bitLen (x / 2) - 1) * 2 := by rw [← Nat.pow_succ]; congr 1; omega
        omega
end Go.Proofs.Ytglpbianmbjoeaa
namespace Go.Proofs.Ytglpbianmbjoeaa
open Go.RowKit BwtM SrtM PkM
set_option linter.unusedVariables false
set_option linter.unusedSimpArgs false
/-- The bits of what there may be at most. -/
def mostB (N : Nat) : Nat := Lib.bitLen (min N 1099511627776 - 1)
def mostN (N : Nat) : Nat := if N < 2 then 0 else min (min N 1099511627776 * ((4 + 3 * mostB N) * (mostB N + 2))) 1099511627776
theorem mostB_le (N : Nat) : mostB N ≤ 40 := by
  have e : (2 : Nat) ^ 40 = 1099511627776 := by decide
  exact Lib.bitLen_le _ 40 (by omega) (by rw [e]; omega)
theorem most_bits {N j : Nat} (hN : 2 ≤ N) (hj : j ≤ 40) (h1 : ∀ i, i < j → 2 ^ i < N) (h2 : N ≤ 2 ^ j ∨ j = 40) : j = mostB N := by
  have e40 : (2 : Nat) ^ 40 = 1099511627776 := by decide
  have hle := mostB_le N
  have hs := bitLen_spec 40 (min N 1099511627776 - 1) (by omega) (by omega)
  have hlo := hs.2 (by omega)
  have hhi := hs.1
  unfold mostB at hle ⊢
  generalize Lib.bitLen (min N 1099511627776 - 1) = L at *
  rcases Nat.lt_trichotomy j L with c | c | c
  · have h3 : N ≤ 2 ^ j := by
      rcases h2 with h2 | h2
      · exact h2
      · omega
    have h4 : 2 ^ j ≤ 2 ^ (L - 1) := Nat.pow_le_pow_right (by omega) (by omega)
    omega
  · exact c
  · have h3 := h1 L c
    have h4 : 2 ^ L < 2 ^ 40 := Nat.pow_lt_pow_right (by omega) (by omega)
    omega
theorem mostN_le (N : Nat) : mostN N ≤ 1099511627776 := by
  unfold mostN
  split <;> omega
end Go.Proofs.Ytglpbianmbjoeaa
namespace Go.Proofs.Ytglpbianmbjoeaa
open Go.RowKit BwtM SrtM PkM
set_option linter.unusedVariables false
set_option linter.unusedSimpArgs false
theorem passS_bnd (n : Nat) (hn : n ≤ 20000) : passS n ≤ 20000 * 48 + 1 := by
  rcases Nat.eq_zero_or_pos n with rfl | h0
  · rw [passS_small (by omega)]; omega
  · have := passS_le n 15 h0 (by have : (2 : Nat) ^ 15 = 32768 := by decide
                                 omega)
    have h2 : n * (3 + 3 * 15) ≤ 20000 * 48 := Nat.mul_le_mul hn (by omega)
    omega
def strSize : Value → Nat
  | .string s => s.size
  | _ => 0
/-- The first bytes of a rotation. -/
def begT (s : ByteArray) (i n : Nat) : ByteArray := (rotT s i).extract 0 n
theorem begT_data (s : ByteArray) (i n : Nat) : (begT s i n).data.toList = (rot s.data.toList i).take n := by unfold begT; rw [rot_takeD, rotT_data]
theorem begT_eq {s : ByteArray} {i k n : Nat} (hi : i ≤ s.size) (hk : k ≤ s.size) (hn : n ≤ s.size) : begT s i n = begT s k n ↔ eqH s.data.toList n i k := by
  rw [text_inj, begT_data, begT_data]
  have hl : s.data.toList.length = s.size := txt_len s
  have g : ∀ a t, a ≤ s.size → t < n → (((rot s.data.toList a).take n)[t]?).map (·.toNat) = some (bt s.data.toList (a + t)) := by
    intro a t ha ht
    rw [List.getElem?_take_of_lt ht]
    have hr : t < (rot s.data.toList a).length := by rw [rot_len _ _ (by rw [hl]; exact ha)]; omega
    have := rot_getD s.data.toList (i := a) (j := t) (by rw [hl]; exact ha) (by rw [hl]; omega)
    rw [← this, List.getD_eq_getElem?_getD, List.getElem?_eq_getElem hr]
    rfl
  constructor
  · intro h t ht
    have h1 := g i t hi ht
    rw [h, g k t hk ht] at h1
    exact (Option.some.inj h1).symm
  · intro h
    apply List.ext_getElem?
    intro t
    rcases Nat.lt_or_ge t n with c | c
    · have h1 := g i t hi c
      have h2 := g k t hk c
      rw [h t c, ← h2] at h1
      exact Option.map_injective (f := fun (x : UInt8) => x.toNat) (fun a b e => UInt8.toNat.inj e) h1
    · rw [List.getElem?_eq_none, List.getElem?_eq_none]
      · rw [List.length_take]; omega
      · rw [List.length_take]; omega
end Go.Proofs.Ytglpbianmbjoeaa
namespace Go.Proofs.Ytglpbianmbjoeaa
open Go.RowKit
set_option linter.unusedVariables false
end Go.Proofs.Ytglpbianmbjoeaa

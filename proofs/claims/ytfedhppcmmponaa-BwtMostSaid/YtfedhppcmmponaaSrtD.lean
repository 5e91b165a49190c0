/-
  THE WALKS OF LAYER 16's CODE (package sorter): places are laid aside.
-/
import Derived.Test.YtfedhppcmmponaaSrtC
import Derived.Test.YtfedhppcmmponaaRepeat
namespace Go.Proofs.Ytfedhppcmmponaa
open Go.RowKit BwtM SrtM PkM
set_option linter.unusedVariables false
set_option linter.unusedSimpArgs false
theorem isl_lh (g lo hi n : Nat) (h1 : lo ≤ hi) (h2 : hi ≤ n) (h3 : lo < n) (hn : n ≤ 1000000) (W : World) : (Instr.slice 23 (.slice (some ⟨g, 0, none⟩) n n) (some (.int .i64 (lo : Int))) (some (.int .i64 (hi : Int))) none).run Try.prog W = .ok (.slice (some ⟨g, lo, none⟩) (hi - lo) (n - lo)) W := by
  have hs : (sizeOf (Try.prog.elem 23)).run Try.prog W = .ok 1 W := by kernel_rfl
  rw [run_slice_lh W 23 (some ⟨g, 0, none⟩) n n (by kernel_rfl) .i64 .i64 _ _ (by omega) (by omega) (by omega), hs]
  have e1 : ((lo : Int)).toNat = lo := by omega
  have e2 : ((hi : Int)).toNat = hi := by omega
  have e3 : ¬ n = lo := by omega
  simp [Result.andThen, sliced, e1, e2, e3, Addr.add]
  intro h
  omega
theorem isl_l (g lo n : Nat) (h3 : lo < n) (hn : n ≤ 1000000) (W : World) : (Instr.slice 23 (.slice (some ⟨g, 0, none⟩) n n) (some (.int .i64 (lo : Int))) none none).run Try.prog W = .ok (.slice (some ⟨g, lo, none⟩) (n - lo) (n - lo)) W := by
  have hs : (sizeOf (Try.prog.elem 23)).run Try.prog W = .ok 1 W := by kernel_rfl
  rw [run_slice_l W 23 (some ⟨g, 0, none⟩) n n (by kernel_rfl) .i64 _ (by omega) (by omega), hs]
  have e1 : ((lo : Int)).toNat = lo := by omega
  have e3 : ¬ n = lo := by omega
  simp [Result.andThen, sliced, e1, e3, Addr.add]
  intro h
  omega
theorem isl_h (g off m len cap : Nat) (h : m ≤ len) (hc : len ≤ cap) (hn : cap ≤ 1000000) (W : World) : (Instr.slice 23 (.slice (some ⟨g, off, none⟩) len cap) none (some (.int .i64 (m : Int))) none).run Try.prog W = .ok (.slice (some ⟨g, off, none⟩) m cap) W := by
  have hs : (sizeOf (Try.prog.elem 23)).run Try.prog W = .ok 1 W := by kernel_rfl
  rw [run_slice_h W 23 (some ⟨g, off, none⟩) len cap (by kernel_rfl) .i64 _ (by omega) (by omega), hs]
  have e1 : ((m : Int)).toNat = m := by omega
  simp [Result.andThen, sliced, e1, Addr.add]
set_option maxRecDepth 100000 in
/-- 'copy' of m numbers of ys from place so on into the row zs from place k on. -/
theorem copy_ints (W : World) (ty g n k sb so sc m : Nat) (zs ys : List Int) (hR : RowI W g zs) (hz : zs.length = n) (hY : RowI W sb ys) (hk : k + m ≤ n) (hs : so + m ≤ ys.length) :
    ∃ cs, (Builtin.copy_ #[23, 23] ty #[.slice (some ⟨g, k, none⟩) (n - k) (n - k), .slice (some ⟨sb, so, none⟩) m sc]).run Try.prog W = .ok (.int .i64 (m : Int)) (W.setRow g cs) ∧ RowI (W.setRow g cs) g (zs.take k ++ (ys.drop so).take m ++ zs.drop (k + m)) := by
  have hm : ((ys.drop so).take m).length = m := by rw [List.length_take, List.length_drop]; omega
  have h := run_copy_row (P := Try.prog) W 23 23 ty 3 g k (n - k) (n - k) ⟨sb, so, none⟩ m sc _ 3 (((ys.drop so).take m).map iv64) Try.underlying23 (by kernel_rfl) hR (by rw [List.length_map, hm]; exact (Nat.min_eq_left (by omega)).symm) (fun j v hj => by
    rw [List.getElem?_map] at hj
    have hjm : j < m := by
      rcases Nat.lt_or_ge j m with c | c
      · exact c
      · rw [List.getElem?_eq_none (by omega)] at hj
        cases hj
    rw [List.getElem?_take_of_lt hjm, List.getElem?_drop] at hj
    have hl : so + j < ys.length := by omega
    rw [List.getElem?_eq_getElem hl] at hj
    rw [Addr.add_lit, (hY.cell hl).1, List.getD_eq_getElem?_getD, List.getElem?_eq_getElem hl]
    exact hj) (by rw [List.length_map, hm]; simp; omega) (fun v hv => by
    obtain ⟨x, _, rfl⟩ := List.mem_map.1 hv
    rfl)
  rw [List.length_map, hm] at h
  refine ⟨_, h, ?_⟩
  have h2 := setRow_heap W g _ ((zs.map iv64).toArray.toList.take k ++ ((ys.drop so).take m).map iv64 ++ (zs.map iv64).toArray.toList.drop (k + m)).toArray 3 (0, 0) hR
  unfold RowI
  rw [h2]
  congr 2
  apply Array.toList_inj.1
  show (zs.map iv64).take k ++ ((ys.drop so).take m).map iv64 ++ (zs.map iv64).drop (k + m) = (zs.take k ++ (ys.drop so).take m ++ zs.drop (k + m)).map iv64
  simp only [List.map_append, List.map_take, List.map_drop]
theorem touch_setRow {b : Nat} {w0 w : World} (h : Touch (· = b) w0 w) (cs : Array Value) : Touch (· = b) w0 (w.setRow b cs) :=
  ⟨h.os, h.tape, h.output, by rw [setRow_size]; exact h.size, fun i hi hs => (setRow_other _ _ i _ (fun e => hs (by omega))).trans (h.block i hi hs)⟩
def layS (S : SS) (lo g : Nat) : SS := { S with asd := S.asd.take S.laid ++ (S.ord.drop (lo + S.laid)).take g ++ S.asd.drop (S.laid + g), laid := S.laid + g }
section
variable {B : Nat} {b bo bc ba n : Nat} {vk vw : Value} {kb : List Nat} {S : SS}
def LayP (B : Nat) (w w' : World) (b bo bc ba n : Nat) (vk vw : Value) (kb : List Nat) (S' : SS) (g : Nat) (e : Ending) : Prop :=
  e = .returned (.int .i64 (g : Int)) ∧ IsSo B w' b bo bc ba vk vw n kb S' ∧ Below B w w' ∧ KbSame w w' kb
set_option maxRecDepth 100000 in
set_option maxHeartbeats 4000000 in
theorem slay_any (w : World) (p : Part) (k g : Nat) (h : IsSo B w b bo bc ba vk vw n kb S) (hlo : p.lo + S.laid ≤ p.mid) (hmid : p.mid < n) (hpn : p.hi ≤ n) (hn : n ≤ 900000) (hk : k ≤ 9223372036854775807) (hg : g = min k (p.mid - p.lo - S.laid)) (hb : B ≤ w.heap.size) :
    Calls Try.prog 58 #[.pointer (some ⟨b, 0, none⟩), .agg #[.int .i64 (p.lo : Int), .int .i64 (p.hi : Int), .bool p.begun], .int .i64 (k : Int)] w fun e w' =>
    LayP B w w' b bo bc ba n vk vw kb (layS S p.lo g) g e := by
  have hg0 := heap_alloc_new w (.cells #[.int .i64 (p.lo : Int), .int .i64 (p.hi : Int), .bool p.begun] 72)
  have hB0 := (Below.refl w.heap.size w).alloc (Nat.le_refl _) (.cells #[.int .i64 (p.lo : Int), .int .i64 (p.hi : Int), .bool p.begun] 72)
  have H0 := Lib.hid (h.below hB0)
  have HB0 := Lib.hid hB0
  have HS0 : Hid (w.heap.size < (w.alloc (.cells #[.int .i64 (p.lo : Int), .int .i64 (p.hi : Int), .bool p.begun] 72)).heap.size) := Lib.hid (by simp)
  have HMID := Lib.hid (fun W => pmid_any p.lo p.hi p.begun W (by omega) (by omega))
  have hmb : (⟨p.lo, p.hi, p.begun⟩ : Part).mid = p.mid := rfl
  rw [hmb] at HMID
  have HKAP := Lib.hid h.kap
  have HBS := Lib.hid h.base
  obtain ⟨a, ha⟩ : ∃ a, p.lo + S.laid = a := ⟨_, rfl⟩
  have hai : (p.lo : Int) + (S.laid : Int) = (a : Int) := by omega
  have haw : IntKind.i64.wrap (a : Int) = (a : Int) := IntWalk.i64_in _ (by omega)
  rw [ha] at hlo
  have hs1 := fun W => isl_lh bo a p.mid n hlo (by omega) (by omega) (by omega) W
  have hs2 := fun W => isl_l ba S.laid n (by omega) (by omega) W
  have hs3 := fun W => isl_h bo a g (p.mid - a) (n - a) (by omega) (by omega) (by omega) W
  have HLAY : Hid (∀ W, IsSo B W b bo bc ba vk vw n kb S → ∃ cs, (Builtin.copy_ #[23, 23] 3 #[.slice (some ⟨ba, S.laid, none⟩) (n - S.laid) (n - S.laid), .slice (some ⟨bo, a, none⟩) g (n - a)]).run Try.prog W = .ok (.int .i64 (g : Int)) (W.setRow ba cs) ∧
      IsSo B ((W.setRow ba cs).setCell ⟨b, 6, none⟩ (.int .i64 ((S.laid + g : Nat) : Int))) b bo bc ba vk vw n kb (layS S p.lo g) ∧ SoObj (W.setRow ba cs) b bo bc ba n vk vw S) := Lib.hid (fun W hW => by
    obtain ⟨cs, h1, h2⟩ := copy_ints W 3 ba n S.laid bo a (n - a) g (toI S.asd) (toI S.ord) hW.ra (by rw [toI_length]; exact hW.la) hW.ro (by omega) (by rw [toI_length, hW.lo]; omega)
    have e : (toI S.asd).take S.laid ++ ((toI S.ord).drop a).take g ++ (toI S.asd).drop (S.laid + g) = toI (S.asd.take S.laid ++ (S.ord.drop (p.lo + S.laid)).take g ++ S.asd.drop (S.laid + g)) := by
      rw [ha]
      unfold toI
      rw [List.map_append, List.map_append, List.map_take, List.map_take, List.map_drop, List.map_drop]
    rw [e] at h2
    have hI := hW.inAsd (touch_setRow (Touch.refl _ _) cs) _ (by rw [List.length_append, List.length_append, List.length_take, List.length_take, List.length_drop, List.length_drop, hW.la, hW.lo]; omega) h2
    exact ⟨cs, h1, hI.own (touch_cell (Touch.refl _ _)) (hI.obj.set6 (S.laid + g)) rfl rfl rfl rfl, hW.obj.other (touch_setRow (Touch.refl _ _) cs) (fun e => hW.apart.2.2.1 e)⟩)
  obtain ⟨ll, hll⟩ : ∃ ll, p.mid - a = ll := ⟨_, rfl⟩
  have hgm : g = min k ll := by omega
  have hlg : S.laid + g ≤ 1000000 := by omega
  have hmin : (if ll < k then (ll : Int) else (k : Int)) = (g : Int) := by rw [hgm]; split <;> omega
  obtain ⟨lg, hlgE⟩ : ∃ lg, S.laid + g = lg := ⟨_, rfl⟩
  have hlag : (S.laid : Int) + (g : Int) = (lg : Int) := by omega
  rw [hlgE] at HLAY hlg
  rw [hll] at hs1 hs3
  clear hB0 hmb ha h hg hgm hlgE
  go_enter Try.func58, Try.ntmps58
  go_wp2_with fail
  obtain ⟨pb, hpb⟩ : ∃ pb, w.heap.size = pb := ⟨_, rfl⟩
  have HPB := Lib.hid hpb
  rw [hpb] at hg0 HS0
  generalize w.alloc (.cells #[.int .i64 (p.lo : Int), .int .i64 (p.hi : Int), .bool p.begun] 72) = w1 at *
  obtain ⟨d0, _, d2, _, _, _, d6, _⟩ := H0.out.obj.cells
  have q0 : ∀ sb : Beneath w1.heap.size w1, sb.val.cell? ⟨b, 0, none⟩ = some (.slice (some ⟨bo, 0, none⟩) n n) := fun sb => Beneath.cell d0 H0.out.obj.lt sb
  have q6 : ∀ sb : Beneath w1.heap.size w1, sb.val.cell? ⟨b, 6, none⟩ = some (.int .i64 (S.laid : Int)) := fun sb => Beneath.cell d6 H0.out.obj.lt sb
  have p0 : ∀ sb : Beneath w1.heap.size w1, sb.val.cell? ⟨pb, 0, none⟩ = some (.int .i64 (p.lo : Int)) := fun sb => Beneath.cell (by rw [cell_of_row _ _ 0 _ _ _ hg0]; rfl) HS0.out sb
  have p1 : ∀ sb : Beneath w1.heap.size w1, sb.val.cell? ⟨pb, 1, none⟩ = some (.int .i64 (p.hi : Int)) := fun sb => Beneath.cell (by rw [cell_of_row _ _ 1 _ _ _ hg0]; rfl) HS0.out sb
  have p2 : ∀ sb : Beneath w1.heap.size w1, sb.val.cell? ⟨pb, 2, none⟩ = some (.bool p.begun) := fun sb => Beneath.cell (by rw [cell_of_row _ _ 2 _ _ _ hg0]; rfl) HS0.out sb
  clear d0 d2 d6 hg0
  refine wp_region_beneath w1.heap.size w1 (Below.refl _ _) (by kernel_rfl) (by kernel_rfl) ?_
  repeat (go_big_quiet_step (first
    | (go_at_call 66; rename_i sb; exact Calls.beneath sb (Nat.le_refl _) (HMID.out _))))
  refine wpQuiet_nil ?_
  rintro _ ⟨sb, rfl⟩
  have H2 := Lib.hid (H0.out.below sb.is)
  have HB2 := Lib.hid (HB0.out.trans (sb.is.mono HB0.out.size))
  clear q0 q6 p0 p1 p2
  generalize sb.val = w2 at *
  obtain ⟨_, _, d2, _, _, _, d6, _⟩ := H2.out.obj.cells
  obtain ⟨cs, hcp, hI, hO⟩ := HLAY.out (w2.drewN 1) (H2.out.drewN 1)
  have HI := Lib.hid hI
  have HO := Lib.hid hO
  have HCP := Lib.hid hcp
  clear hI hO hcp
  go_wp2_with fail
  go_still_tail 15, (by kernel_rfl)
  refine wpList_copyRun rfl _ _ 23 23 rfl _ _ rfl rfl HCP.out ?_
  obtain ⟨_, _, _, _, _, _, d6b, _⟩ := HO.out.cells
  have e6 := HO.out.frozen 6 (by omega)
  have HT : Hid (Touch (fun x => x = ba ∨ x = b) w2 (((w2.drewN 1).setRow ba cs).setCell ⟨b, 6, none⟩ (.int .i64 (lg : Int)))) := Lib.hid (by
    have t1 : Touch (· = ba) w2 ((w2.drewN 1).setRow ba cs) := touch_setRow (touch_drewN _ _ _) cs
    have t2 : Touch (· = b) ((w2.drewN 1).setRow ba cs) (((w2.drewN 1).setRow ba cs).setCell ⟨b, 6, none⟩ (.int .i64 (lg : Int))) := touch_cell (Touch.refl _ _)
    exact (t1.mono (fun _ h => Or.inl h)).trans (t2.mono (fun _ h => Or.inr h)) (fun _ h => Or.inl h))
  have HBB : Hid (Below B w (((w2.drewN 1).setRow ba cs).setCell ⟨b, 6, none⟩ (.int .i64 (lg : Int)))) := Lib.hid ((HB2.out.mono hb).trans (HT.out.below (Nat.le_trans hb HB2.out.size) (fun x hx => by
    obtain ⟨b1, _, _, b4⟩ := HBS.out
    rcases hx with e | e
    · omega
    · omega)))
  have HKS : Hid (KbSame w (((w2.drewN 1).setRow ba cs).setCell ⟨b, 6, none⟩ (.int .i64 (lg : Int))) kb) := Lib.hid (fun x hx => by
    obtain ⟨k1, k2, k3, k4, k5, k6⟩ := HKAP.out x hx
    rw [HT.out.block x (Nat.lt_of_lt_of_le k1 HB2.out.size) (fun e => by
      rcases e with e | e
      · exact k5 e
      · exact k2 e)]
    exact HB2.out.block x k1)
  generalize (w2.drewN 1).setRow ba cs = w3 at *
  clear d2 d6 HCP
  go_wp2_with fail
  go_ret
  exact ⟨rfl, HI.out, HBB.out, HKS.out⟩
end
end Go.Proofs.Ytfedhppcmmponaa

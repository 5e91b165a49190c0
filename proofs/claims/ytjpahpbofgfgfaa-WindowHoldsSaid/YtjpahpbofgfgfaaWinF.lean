/-
  LAYER 28 (package window): Tick.
-/
import Derived.Test.YtjpahpbofgfgfaaWinE
import Derived.Test.YtjpahpbofgfgfaaObjF
import Derived.Laws.CopyRow
namespace Go.Proofs.Ytjpahpbofgfgfaa
open Go.RowKit
set_option linter.unusedVariables false
set_option linter.unusedSimpArgs false
theorem wd_storeRun {P : Program} {ops : Array Oper} {rest : List Oper} {o : Oper} {a : Act} {w w' : World} {Q : Exit → Act → World → Prop} (hgd : o.guard = none) (ty : TypeId) (x y : Operand) (ho : o.op = .store ty x y) (p : Addr) (hx : a.eval x = .pointer (some p)) (v : Value) (hy : a.eval y = v)
    (hl : (storeVar ty p v).run P w = .ok () w') (h : wpList P ops Q rest (a.put o.dst undef) w') : wpList P ops Q (o :: rest) a w :=
  wpList_plain hgd fun _ hK => by
    unfold Oper.wp execOp
    simp only [ho, hx, hy, Instr.storeAt, Instr.sureAddr, Sem.run_bind, Sem.run_pure, Result.andThen_ok, hl]
    exact hK _ _ h
def zero16 : Array Value := cellsF 16 (fun _ => .int .i64 0)
theorem zero16_built : Try.prog.built 77 [] = some zero16 := by kernel_rfl
theorem info16 : (Try.prog.info? 77).map (·.size) = some 16 := by kernel_rfl
section
variable {B n : Nat} {w w' : World} {b : Nat} {p v : Value} {zs : List Int} {S A : Int} {C D : Nat → Int}
/-- What was charged, made anew. -/
theorem IsMt.clear (h : IsMt B w b v zs S A C D) : ∃ G, (storeVar 77 ⟨b, 3, none⟩ (.agg zero16)).run Try.prog w = .ok () (w.setRow b G) ∧ IsMt B (w.setRow b G) b v zs S A zeroF D ∧ Touch (· = b) w (w.setRow b G) := by
  have h1 := h.obj
  have hlen : ((List.range 16).map (fun _ => Value.int .i64 0)).length = 16 := by rw [List.length_map, List.length_range]
  have hst := run_storeCells_at (P := Try.prog) b 3 79 ((List.range 16).map (fun _ => Value.int .i64 0)) 0 (cellsF 35 (mtF S A v C D)) w h1 (by rw [hlen, cellsF_size]; omega) (fun v hv => by
    obtain ⟨b, hb, rfl⟩ := List.mem_map.1 hv
    rfl)
  simp only [Nat.add_zero] at hst
  rw [cellsF_part 35 _ 3 _ (by rw [hlen]; omega), hlen] at hst
  have ht : Touch (· = b) w (w.setRow b (cellsF 35 (fun k => if k < 3 then mtF S A v C D k else if k < 3 + 16 then ((List.range 16).map (fun _ => Value.int .i64 0)).getD (k - 3) (mtF S A v C D k) else mtF S A v C D k))) := ⟨rfl, rfl, rfl, by simp [World.setRow], fun j _ hj => setRow_other w b j _ hj⟩
  refine ⟨_, ?_, h.setObj ht ?_, ht⟩
  · have hi := info16
    cases hq : Try.prog.info? 77 with
    | none => simp [hq] at hi
    | some i =>
      have hs : i.size = 16 := by simpa [hq] using hi
      have hz : zero16.size = 16 := cellsF_size _ _
      have hl : zero16.toList = (List.range 16).map (fun _ => Value.int .i64 0) := by simp [zero16, cellsF]
      simp [storeVar, sizeOf, typeInfo, hq, Value.cells, hs, hz, hl, hst]
  · rw [setRow_heap w b _ _ _ _ h1]
    refine congrArg (fun F => some (Obj.cells F 79 (0, 0))) (cellsF_congr fun k hk' => ?_)
    unfold mtF zeroF
    by_cases c1 : k < 3
    · rw [if_pos c1]
      by_cases e0 : k = 0
      · rw [if_pos e0, if_pos e0]
      · rw [if_neg e0, if_neg e0]
        by_cases e1 : k = 1
        · rw [if_pos e1, if_pos e1]
        · rw [if_neg e1, if_neg e1, if_pos (by omega), if_pos (by omega)]
    · have n0 : ¬ k = 0 := by omega
      have n1 : ¬ k = 1 := by omega
      have n2 : ¬ k = 2 := by omega
      by_cases c2 : k < 19
      · have c3 : k < 3 + 16 := by omega
        simp only [if_neg c1, if_neg n0, if_neg n1, if_neg n2, if_pos c2, if_pos c3]
        rw [List.getD_eq_getElem?_getD, List.getElem?_map, List.getElem?_range (by omega)]
        rfl
      · have c3 : ¬ k < 3 + 16 := by omega
        simp only [if_neg c1, if_neg n0, if_neg n1, if_neg n2, if_neg c2, if_neg c3]
/-- The next tick, and what was charged then. -/
def tkA (A : Int) : Int := if A = 1099511627776 then A else A + 1
def tkC (S A : Int) (C : Nat → Int) : Nat → Int := if A = 1099511627776 then C else if (A + 1) % S = 0 then zeroF else C
theorem MtInv.tick (hV : MtInv zs S A C D) : MtInv zs S (tkA A) (tkC S A C) D := by
  obtain ⟨a, b, c, d⟩ := hV
  refine ⟨a, ?_, c, fun i hi => ?_⟩
  · unfold tkA
    split <;> omega
  · obtain ⟨d1, d2, d3, d4, d5⟩ := d i hi
    unfold tkC
    split
    · exact ⟨d1, d2, d3, d4, d5⟩
    · split
      · exact ⟨Int.le_refl _, Int.le_trans d1 d2, d3, d4, d5⟩
      · exact ⟨d1, d2, d3, d4, d5⟩
/-- What Tick leaves. -/
def TickP (B : Nat) (w w' : World) (b : Nat) (v : Value) (zs : List Int) (S A : Int) (C D : Nat → Int) (e : Ending) : Prop :=
  e = .returned (.tuple #[]) ∧ IsMt B w' b v zs S (tkA A) (tkC S A C) D ∧ Touch (· = b) w w'
set_option maxHeartbeats 1000000 in
theorem wdtick_nil (w : World) : Calls Try.prog 28 #[.pointer none] w fun e w' => e = .returned (.tuple #[]) ∧ w' = w := by
  have HT := Lib.hid (wdtenants_v (B := 0) w (MtV.nil 0 w))
  go_enter Try.func28, Try.ntmps28
  go_wp2_with fail
  refine HT.out.mono ?_
  rintro e w1 ⟨rfl, rfl⟩
  go_wp2_with fail
  refine bodyPost_ret (results_none (by kernel_rfl) _ _ _) rfl ?_
  exact ⟨rfl, rfl⟩
set_option maxHeartbeats 4000000 in
theorem wdtick_any (w : World) (h : IsMt B w b v zs S A C D) (hV : MtInv zs S A C D) : Calls Try.prog 28 #[.pointer (some ⟨b, 0, none⟩)] w fun e w' => TickP B w w' b v zs S A C D e := by
  have HT := Lib.hid (wdtenants_v w h.mtV)
  have k0 : ((zs.length : Int) == 0) = false := by have := hV.2.2.1.1; rw [beq_eq_false_iff_ne]; omega
  have c1 := h.c1
  by_cases hA : A = 1099511627776
  · have kA : (A == 1099511627776) = true := by rw [beq_iff_eq]; exact hA
    have HE : Hid (TickP B w w b v zs S A C D (.returned (.tuple #[]))) := Lib.hid ⟨rfl, by unfold tkA tkC; rw [if_pos hA, if_pos hA]; exact h, Touch.refl _ _⟩
    clear h hV hA
    go_enter Try.func28, Try.ntmps28
    go_wp2_with fail
    refine HT.out.mono ?_
    rintro e w1 ⟨rfl, rfl⟩
    go_wp2_with fail
    refine bodyPost_ret (results_none (by kernel_rfl) _ _ _) rfl ?_
    exact HE.out
  · have kA : (A == 1099511627776) = false := by rw [beq_eq_false_iff_ne]; exact hA
    have hb := hV.2.1
    obtain ⟨A2, hA2⟩ : ∃ A2, A + 1 = A2 := ⟨_, rfl⟩
    have hw : IntKind.i64.wrap A2 = A2 := IntWalk.i64_in _ (by omega)
    obtain ⟨w1, hw1⟩ : ∃ w1, w.setCell ⟨b, 1, none⟩ (.int .i64 A2) = w1 := ⟨_, rfl⟩
    have h1 : IsMt B w1 b v zs S A2 C D := by rw [← hw1]; exact h.setAt A2
    have HT1 : Hid (Touch (· = b) w w1) := Lib.hid (by rw [← hw1]; exact touch_cell (Touch.refl _ _))
    have hV1 : MtInv zs S A2 C D := ⟨hV.1, by omega, hV.2.2.1, hV.2.2.2⟩
    have HBG := Lib.hid (wdbegins_any w1 h1 hV1)
    have f1 := h.frozen 1
    have H1 := Lib.hid h1
    by_cases hm : A2 % S = 0
    · have km : (A2 % S == 0) = true := by rw [beq_iff_eq]; exact hm
      rw [km] at HBG
      have HE : Hid (∀ m, ∃ G, (storeVar 77 ⟨b, 3, none⟩ (.agg zero16)).run Try.prog (w1.drewN m) = .ok () ((w1.drewN m).setRow b G) ∧ TickP B w ((w1.drewN m).setRow b G) b v zs S A C D (.returned (.tuple #[]))) := Lib.hid (fun m => by
        obtain ⟨G, g1, g2, g3⟩ := (H1.out.drewN m).clear
        refine ⟨G, g1, rfl, ?_, (HT1.out.trans (touch_drewN (· = b) w1 m) (fun i h => Or.inl h)).trans g3 (fun i h => Or.inl h)⟩
        unfold tkA tkC
        rw [if_neg hA, if_neg hA, hA2, if_pos hm]
        exact g2)
      clear h h1 hV hV1 hm km hb
      go_enter Try.func28, Try.ntmps28
      go_wp2_with fail
      refine HT.out.mono ?_
      rintro e w2 ⟨rfl, rfl⟩
      go_wp2_with fail
      refine HBG.out.mono ?_
      rintro e w3 ⟨rfl, m, rfl⟩
      obtain ⟨G, g1, g2⟩ := HE.out m
      have HG := Lib.hid g2
      clear g2 HE
      go_wp2_with (first | (refine wpList_build_is rfl 77 rfl zero16 zero16_built ?_) | (refine wd_storeRun rfl 77 _ _ rfl ⟨b, 3, none⟩ rfl _ rfl g1 ?_))
      refine bodyPost_end (results_none (by kernel_rfl) _ _ _) rfl ?_
      exact HG.out
    · have km : (A2 % S == 0) = false := by rw [beq_eq_false_iff_ne]; exact hm
      rw [km] at HBG
      have HE : Hid (∀ m, TickP B w (w1.drewN m) b v zs S A C D (.returned (.tuple #[]))) := Lib.hid (fun m => by
        refine ⟨rfl, ?_, HT1.out.trans (touch_drewN (· = b) w1 m) (fun i h => Or.inl h)⟩
        unfold tkA tkC
        rw [if_neg hA, if_neg hA, hA2, if_neg hm]
        exact H1.out.drewN m)
      clear h h1 hV hV1 hm km hb
      go_enter Try.func28, Try.ntmps28
      go_wp2_with fail
      refine HT.out.mono ?_
      rintro e w2 ⟨rfl, rfl⟩
      go_wp2_with fail
      refine HBG.out.mono ?_
      rintro e w3 ⟨rfl, m, rfl⟩
      go_wp2_with fail
      refine bodyPost_end (results_none (by kernel_rfl) _ _ _) rfl ?_
      exact HE.out m
end
end Go.Proofs.Ytjpahpbofgfgfaa

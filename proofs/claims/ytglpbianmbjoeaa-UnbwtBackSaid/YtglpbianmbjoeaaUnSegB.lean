/-
  MERGED by seg.py out of: RegK UnF UnJ UnK UnRef RotMath RotMathB SrtMath SrtMathB SrtMathC SrtMathD Rot Srt TextEq RotB RotC SrtA SrtB.
-/
import Derived.Test.YtglpbianmbjoeaaUnSegA
import Derived.Deep.RegionHeld3
import Derived.Deep.RegionLaw
import Derived.Deep.QuietTactic
import Derived.Outline
import Derived.Shelf.Abstract
import Derived.StillTailTactics
import Derived.BigQuiet
import Derived.Laws.EntriesVeiled
namespace Go.Proofs.Ytglpbianmbjoeaa
open Go.RowKit
set_option linter.unusedVariables false
section
variable {P : Program} {ops : Array Oper} {Q : Exit → Act → World → Prop} {md : Region.Mode} {S : World → Prop} {m : Nat}
/-- Whatever order is picked, S holds behind each operation but number m. -/
def wpAnyK (P : Program) (md : Region.Mode) (ops : Array Oper) (Q : Exit → Act → World → Prop) (S : World → Prop) (m : Nat) : Nat → Array Bool → Act → World → Prop
  | 0, listed, a, w => Region.ready md ops listed = [] ∧ Q .normal a w
  | fuel + 1, listed, a, w => (Region.ready md ops listed = [] → Q .normal a w) ∧ ∀ i ∈ Region.ready md ops listed, wpOp P ops Q i (fun a' w' => (i ≠ m → S w') ∧ wpAnyK P md ops Q S m fuel (listed.setIfInBounds i true) a' w') a w
theorem wpAny_of_K : ∀ (fuel : Nat) (listed : Array Bool) (a : Act) (w : World), wpAnyK P md ops Q S m fuel listed a w → wpAny P md ops Q fuel listed a w
  | 0, _, _, _, h => h
  | fuel + 1, _, _, _, h => ⟨h.1, fun i hi => wpOp_mono (fun a' w' h' => wpAny_of_K fuel _ a' w' h'.2) (h.2 i hi)⟩
/-- Number m waits for number i. -/
def waitsB (md : Region.Mode) (ops : Array Oper) (m i : Nat) : Bool := ((ops[m]?).map (fun o => o.after.any fun e => Region.binds md e && e.on == i)).getD false
theorem not_yet {i : Nat} {listed : Array Bool} (hw : waitsB md ops m i = true) (hi : i ∈ Region.ready md ops listed) : m ∉ Region.ready md ops listed := fun hm => by
  obtain ⟨_, o, ho, hall⟩ := mem_ready.1 hm
  have h0 := (mem_ready.1 hi).1
  unfold waitsB at hw
  rw [ho] at hw
  simp only [Option.map_some, Option.getD_some, Array.any_eq_true, Bool.and_eq_true, beq_iff_eq] at hw
  obtain ⟨k, hk, hb, hon⟩ := hw
  have h1 := hall _ (Array.getElem_mem hk) hb
  rw [hon] at h1
  rcases Nat.lt_or_ge i listed.size with c | c
  · rw [Array.getD_eq_getD_getElem?, Array.getElem?_eq_getElem c] at h0 h1
    simp at h0 h1
    rw [h0] at h1
    cases h1
  · rw [Array.getD_eq_getD_getElem?, Array.getElem?_eq_none c] at h1
    cases h1
theorem wpAnyK_first {i : Nat} {oi : Oper} {v : Value} (hi : ops[i]? = some oi) (hsel : ∀ (j : Nat) (o : Oper) cs b, ops[j]? = some o → o.op ≠ .select cs b)
    (hQ : ∀ c a w, Q (.panic c) (a.put oi.dst v) w → Q (.panic c) a w) (hwait : waitsB md ops m i = true) :
    ∀ (fuel : Nat) (listed : Array Bool) (a : Act) (w : World),
      (∀ j oj, ops[j]? = some oj → j ≠ i → listed.getD j true = false → (∀ e ∈ oj.after, Region.binds md e = true → e.on ≠ i) → oi.apart ops oj = true) →
      i ∈ Region.ready md ops listed → YieldsIf P ops S oi v a → S w →
      wpAnyK P md ops Q S m fuel (listed.setIfInBounds i true) (a.put oi.dst v) w → wpAnyK P md ops Q S m (fuel + 1) listed a w := fun fuel => by
  induction fuel with
  | zero =>
    intro listed a w _ hr hy hS H
    refine ⟨fun h => absurd (h ▸ hr) (by simp), fun j hj => ?_⟩
    by_cases e : j = i
    · subst e
      exact hy.wpOp hi hS ⟨fun _ => hS, H⟩
    · exact absurd (H.1 ▸ ready_mono hj e) (by simp)
  | succ fuel ih =>
    intro listed a w hfree hr hy hS H
    refine ⟨fun h => absurd (h ▸ hr) (by simp), fun j hj => ?_⟩
    by_cases e : j = i
    · subst e
      exact hy.wpOp hi hS ⟨fun _ => hS, H⟩
    · have hjm : j ≠ m := fun g => not_yet hwait hr (g ▸ hj)
      obtain ⟨hun, oj, hoj, hall⟩ := mem_ready.1 hj
      have hno : ∀ d ∈ oj.after, Region.binds md d = true → d.on ≠ i := fun d hd hb g => by
        have h1 := hall d hd hb
        have h0 := (mem_ready.1 hr).1
        rw [g] at h1
        rcases Nat.lt_or_ge i listed.size with c | c
        · rw [Array.getD_eq_getD_getElem?, Array.getElem?_eq_getElem c] at h0 h1
          simp at h0 h1
          rw [h0] at h1
          cases h1
        · rw [Array.getD_eq_getD_getElem?, Array.getElem?_eq_none c] at h1
          cases h1
      have h2 := wpOp_putIf hoj (hfree j oj hoj e hun hno) (fun cs b => hsel i oi cs b hi) (fun cs b => hsel j oj cs b hoj) hQ hy (H.2 j (ready_mono hj e))
      refine wpOp_mono (fun a' w' h3 => ⟨h3.2.1, ih (listed.setIfInBounds j true) a' w' (fun k ok hk hki hu hn => hfree k ok hk hki ?_ hn) (ready_mono hr (fun g => e g.symm)) h3.1 (h3.2.1 hjm) ?_⟩) h2
      · by_cases g : j = k
        · rw [← g]; exact hun
        · rw [getD_set_ne true g] at hu; exact hu
      · rw [Array.setIfInBounds_comm _ _ e]
        exact h3.2.2
/-- Number i is taken first. -/
theorem wpAnyK_take {i : Nat} {oi : Oper} {v : Value} {fuel : Nat} {listed : Array Bool} {a : Act} {w : World} (hi : ops[i]? = some oi)
    (hs : Region.noSelect ops = true) (hf : Region.free md ops listed i = true) (hr : (Region.ready md ops listed).contains i = true) (hwait : waitsB md ops m i = true)
    (hQ : ∀ c a w, Q (.panic c) (a.put oi.dst v) w → Q (.panic c) a w) (hy : YieldsIf P ops S oi v a) (hS : S w)
    (h : wpAnyK P md ops Q S m fuel (listed.setIfInBounds i true) (a.put oi.dst v) w) : wpAnyK P md ops Q S m (fuel + 1) listed a w :=
  wpAnyK_first hi (Region.noSelect_spec hs) hQ hwait fuel listed a w (Region.free_spec hi hf) (by simpa using hr) hy hS h
/-- From here on as ever. -/
theorem wpAnyK_of {fuel : Nat} {listed : Array Bool} {a : Act} {w : World} : (∀ (fuel : Nat) (listed : Array Bool) (a : Act) (w : World), wpAnyH P md ops Q (fun _ => True) fuel listed a w → wpAnyK P md ops Q (fun _ => True) m fuel listed a w) := fun fuel => by
  induction fuel with
  | zero => intro listed a w h; exact h
  | succ fuel ih => intro listed a w h; exact ⟨h.1, fun i hi => wpOp_mono (fun a' w' h' => ⟨fun _ => trivial, ih _ a' w' h'.2⟩) (h.2 i hi)⟩
theorem wpAnyK_ready {rs : List Nat} {fuel : Nat} {listed : Array Bool} {a : Act} {w : World} (hr : Region.ready md ops listed = rs) (hne : rs ≠ [])
    (h : ∀ i ∈ rs, wpOp P ops Q i (fun a' w' => (i ≠ m → S w') ∧ wpAnyK P md ops Q S m fuel (listed.setIfInBounds i true) a' w') a w) : wpAnyK P md ops Q S m (fuel + 1) listed a w := ⟨fun h0 => absurd (hr ▸ h0) hne, hr ▸ h⟩
/-- One operation, what follows behind a letter. -/
theorem wpOp_in {i : Nat} {o : Oper} {a : Act} {w : World} {K : Act → World → Prop} (hi : ops[i]? = some o) (h : ∀ K' : Act → World → Prop, (∀ a w, K a w → K' a w) → if Region.wanted o (yielded ops a.tmps) = true then Oper.wp P o a w K' Q else K' (a.put o.dst undef) w) : wpOp P ops Q i K a w := by
  have h2 := h K (fun _ _ h => h)
  unfold wpOp
  simp only [hi]
  split
  · rename_i hw
    rw [if_pos hw] at h2
    exact Or.inl h2
  · rename_i hw
    rw [if_neg hw] at h2
    exact h2
theorem wpAnyK_done {listed : Array Bool} {a : Act} {w : World} (hr : Region.ready md ops listed = []) (h : Q .normal a w) : ∀ fuel, wpAnyK P md ops Q S m fuel listed a w
  | 0 => ⟨hr, h⟩
  | _ + 1 => ⟨fun _ => h, fun i hi => by rw [hr] at hi; cases hi⟩
theorem wp_region_K {id : Nat} {l : List Oper} {a : Act} {w : World} (m : Nat) (S : World → Prop) (hm : P.follows .mixedOrders = true)
    (h : wpAnyK P .any l.toArray Q S m l.length (Array.replicate l.length false) a w.drew) : (Code.region id l.toArray true).wp P Q a w := by
  have hs : l.toArray.size = l.length := by simp
  exact wp_region_any hm (wpAny_of_K (S := S) (m := m) _ _ _ _ (by rw [hs]; exact h))
end
end Go.Proofs.Ytglpbianmbjoeaa
namespace Go.Proofs.Ytglpbianmbjoeaa
open Go.RowKit BwtM PkM
set_option linter.unusedVariables false
set_option linter.unusedSimpArgs false
theorem unBelow_drewN (B : Nat) (w : World) (k : Nat) : Below B w (w.drewN k) := ⟨rfl, rfl, rfl, Nat.le_refl _, fun _ _ => rfl⟩
theorem IsIn.grown {B t g : Nat} {w w' : World} {s : ByteArray} {C : Nat → Nat} {zs : List Int} {l l' : List UInt8} {pl nc nl nf : Nat} {tv tv' : Value} (h : IsIn B w t g s C zs l pl nc nl nf tv) (ht : Touch (fun k => tv.ownBlock = some k) w w') (ho : OwnY w' B tv' l') (hv : ∀ k, tv'.ownBlock = some k → tv.ownBlock = some k ∨ w.heap.size ≤ k) :
    IsIn B (w'.setCell ⟨t, 259, none⟩ tv') t g s C zs l' pl nc nl nf tv' := by
  have o1 := h.obj.other ht (fun e => (h.lap t e).1 rfl)
  have r1 := h.row.other ht (fun e => (h.lap g e).2 rfl)
  have t2 : Touch (· = t) w' (w'.setCell ⟨t, 259, none⟩ tv') := touch_cell (Touch.refl _ _)
  have lt1 := h.obj.lt
  have lt2 := h.row.lt
  have hlap : ∀ j, tv'.ownBlock = some j → j ≠ t ∧ j ≠ g := fun j hj => by
    rcases hv j hj with e | e
    · exact h.lap j e
    · exact ⟨by omega, by omega⟩
  exact ⟨o1.set259 tv', r1.other t2 h.gt, h.len, ho.same (fun k hk => t2.block k (ho.lt k hk).2 (hlap k hk).1), h.gt, hlap, h.base, h.gase⟩
def FwSt (v0 : Value) (w0 : World) (B : Nat) (w : World) (t g : Nat) (s : ByteArray) (C : Nat → Nat) (K : List Nat) (l : List UInt8) (o nc nl nf j : Nat) : Prop := ∃ tv, (∀ k, tv.ownBlock = some k → v0.ownBlock = some k ∨ w0.heap.size ≤ k) ∧ IsIn B w t g s C (toI K) (l ++ BwtM.follow s.data.toList K j o) (UnM.plc K o j) nc nl (nf + j) tv
section
variable {B t g : Nat} {s : ByteArray} {C : Nat → Nat} {K : List Nat} {l : List UInt8} {o nc nl nf : Nat}
set_option maxRecDepth 100000 in
set_option maxHeartbeats 8000000 in
theorem unfollow_any (w : World) (q : Nat) (tv0 : Value) (h : IsIn B w t g s C (toI K) l o nc nl nf tv0) (hK : ∀ p, p < s.size → K.getD p 0 < s.size) (ho : o < s.size) (hf : nf ≤ s.size) (hs : s.size ≤ 100000) (hl : l.length ≤ 100000) (hq : q ≤ 9223372036854775807) (hbw : B ≤ w.heap.size) :
    Calls Try.prog 29 #[.pointer (some ⟨t, 0, none⟩), .int .i64 (q : Int)] w fun e w' => e = .returned (.int .i64 ((min q (s.size - nf) : Nat) : Int)) ∧ FwSt tv0 w B w' t g s C K l o nc nl nf (min q (s.size - nf)) ∧ Touch (fun x => x = t ∨ tv0.ownBlock = some x) w w' := by
  obtain ⟨c0, _, _, _, _, _, c7⟩ := h.obj.cells
  obtain ⟨d, hd⟩ : ∃ d, s.size - nf = d := ⟨_, rfl⟩
  have hdi : (s.size : Int) - (nf : Int) = (d : Int) := by omega
  have hdw : IntKind.i64.wrap (d : Int) = (d : Int) := IntWalk.i64_in _ (by omega)
  obtain ⟨n, hn⟩ : ∃ n, min q d = n := ⟨_, rfl⟩
  have hnd : n ≤ d := by omega
  have hnf : nf + n ≤ s.size := by omega
  rw [hd, hn]
  have H0 : Hid (FwSt tv0 w B w t g s C K l o nc nl nf 0) := Lib.hid ⟨tv0, fun k hk => Or.inl hk, by
    show IsIn B w t g s C (toI K) (l ++ []) o nc nl nf tv0
    rw [List.append_nil]; exact h⟩
  have HB0 : Hid (Touch (fun x => x = t ∨ tv0.ownBlock = some x) w w) := Lib.hid (Touch.refl _ _)
  have HK := Lib.hid hK
  have HPL : Hid (∀ j, UnM.plc K o j < s.size) := Lib.hid (fun j => by
    induction j with
    | zero => exact ho
    | succ i ih => exact hK _ ih)
  have hcs : (d < q ∧ n = d) ∨ (¬ d < q ∧ n = q) := by omega
  clear h hd hn hK
  rcases hcs with ⟨hdq, rfl⟩ | ⟨hdq, rfl⟩
  all_goals
    go_enter Try.func29, Try.ntmps29
    go_wp2_with fail
    go_quiet (fail)
    go_wp2_with fail
    go_loopw [19] (fun vj wr => ∃ (j m : Nat), vj = .int .i64 (j : Int) ∧ j ≤ n ∧ FwSt tv0 w B wr t g s C K l o nc nl nf j ∧ Touch (fun x => x = t ∨ tv0.ownBlock = some x) w wr) (fun vj _ => n - (intOf vj).toNat)
    case atStart => exact ⟨0, 0, rfl, Nat.zero_le _, (by obtain ⟨tv, h0, h⟩ := H0.out; exact ⟨tv, h0, h.below (below_drewN _ _)⟩), touch_drewN _ _ _⟩
    case round =>
      clear H0 HB0 c0 c7
      obtain ⟨j, _, rfl, hj, hI, hB⟩ := hrel
      have HB := Lib.hid hB
      have HF := Lib.hid hI
      by_cases hjn : j < n
      · have hji : (j : Int) < (n : Int) := by omega
        obtain ⟨tv, hV, hI⟩ := hI
        have HV := Lib.hid hV
        clear hV
        have HI := Lib.hid hI
        obtain ⟨c0, c2, c3, _, _, _, _⟩ := hI.obj.cells
        have e3 := hI.obj.frozen 258 (by omega)
        obtain ⟨p, hp⟩ : ∃ p, UnM.plc K o j = p := ⟨_, rfl⟩
        have hps : p < s.size := by rw [← hp]; exact HPL.out j
        have hpi : (p : Int) < (s.size : Int) := by omega
        obtain ⟨p2, hp2⟩ : ∃ p2, K.getD p 0 = p2 := ⟨_, rfl⟩
        have hp2s : p2 < s.size := by rw [← hp2]; exact HK.out p hps
        have HP2 : Hid (UnM.plc K o (j + 1) = p2) := Lib.hid (by
          show K.getD (UnM.plc K o j) 0 = p2
          rw [hp, hp2])
        rw [hp] at c3
        have cr := (hI.row.cell (i := p) (by rw [hI.len]; exact hps)).1
        rw [toI_getD, hp2] at cr
        have I3 := hI.below (below_drewN wr 1)
        obtain ⟨W5, hW5⟩ : ∃ W5, (wr.drewN 1).setCell ⟨t, 258, none⟩ (.int .i64 (p2 : Int)) = W5 := ⟨_, rfl⟩
        have I5 := I3.own (touch_cell (i := 258) (Touch.refl _ _)) (I3.obj.set258 p2)
        rw [hW5] at I5
        have HI5 := Lib.hid I5
        have HB5 : Hid (Touch (fun x => x = t ∨ tv0.ownBlock = some x) w W5) := Lib.hid (by
          rw [← hW5]
          exact (hB.trans (touch_drewN _ wr 1) (fun _ h => Or.inl h)).setCell (p := ⟨t, 258, none⟩) (Or.inl (Or.inl rfl)) _)
        clear hI hB hp hp2 I3 I5
        go_wp2_with fail
        go_still_tail 13, (by kernel_rfl)
        change wpList _ _ _ _ _ (wr.drewN 1)
        go_wp2_with fail
        clear c0 c2 c3 e3 cr hW5
        obtain ⟨wb, rfl⟩ : ∃ wb : World, wb = W5 := ⟨_, rfl⟩
        obtain ⟨c0, _, c3, c4, _, _, _⟩ := HI5.out.obj.cells
        obtain ⟨a4, cap4, hv4⟩ := HI5.out.told.slice
        subst hv4
        obtain ⟨L, hL⟩ : ∃ L, (l ++ BwtM.follow s.data.toList K j o).length = L := ⟨_, rfl⟩
        rw [hL] at c4 HI5 HV
        have HLL := Lib.hid hL
        have hLb : L ≤ 1000000 := by
          rw [← hL, List.length_append, UnM.follow_len]
          omega
        have hat := at_get s hp2s
        obtain ⟨y, hy⟩ : ∃ y : UInt8, s.data.toList.getD p2 0 = y := ⟨_, rfl⟩
        have hby : UnM.by_ s.data.toList p2 = y.toNat := by unfold UnM.by_; rw [hy]
        rw [hby] at hat
        have HY := Lib.hid hy
        have hp2i : (p2 : Int) < (s.size : Int) := by omega
        clear hL hy hby
        have hSS : (fun W : World => W.cell? ⟨t, 259, none⟩ = some (.slice a4 L cap4) ∧ W.cell? ⟨t, 0, none⟩ = some (.string s) ∧ W.cell? ⟨t, 258, none⟩ = some (.int .i64 (p2 : Int))) wb.drew := ⟨c4, c0, c3⟩
        have hLT : t < wb.drew.heap.size := HI5.out.obj.lt
        have hSX : (fun W : World => W.cell? ⟨t, 259, none⟩ = some (.slice a4 L cap4) ∧ W.cell? ⟨t, 0, none⟩ = some (.string s) ∧ W.cell? ⟨t, 258, none⟩ = some (.int .i64 (p2 : Int))) (wb.drew.alloc (.cells #[.int .u8 (y.toNat : Int)] 5)) :=
          ⟨(World.cell?_alloc_some wb.drew _ _ (by rw [hSS.1]; rfl)).trans hSS.1, (World.cell?_alloc_some wb.drew _ _ (by rw [hSS.2.1]; rfl)).trans hSS.2.1, (World.cell?_alloc_some wb.drew _ _ (by rw [hSS.2.2]; rfl)).trans hSS.2.2⟩
        refine wp_region_K 18 (fun W : World => W.cell? ⟨t, 259, none⟩ = some (.slice a4 L cap4) ∧ W.cell? ⟨t, 0, none⟩ = some (.string s) ∧ W.cell? ⟨t, 258, none⟩ = some (.int .i64 (p2 : Int))) (by kernel_rfl) ?_
        refine wpAnyK_take (i := 0) rfl (by kernel_rfl) (by kernel_rfl) (by kernel_rfl) (by kernel_rfl) (fun _ _ _ h => h) (v := ?_) (Or.inl ⟨by rfl, ?_⟩) hSS ?_
        rotate_left
        · rintro W ⟨k4, k0, k3⟩
          go_simp
          try with_reducible rfl
        try simp only [Act.put, List.setIfInBounds_toArray, List.set_cons_zero, List.set_cons_succ]
        refine wpAnyK_take (i := 1) rfl (by kernel_rfl) (by kernel_rfl) (by kernel_rfl) (by kernel_rfl) (fun _ _ _ h => h) (v := ?_) (Or.inl ⟨by rfl, ?_⟩) hSS ?_
        rotate_left
        · rintro W ⟨k4, k0, k3⟩
          go_simp
          try with_reducible rfl
        try simp only [Act.put, List.setIfInBounds_toArray, List.set_cons_zero, List.set_cons_succ]
        refine wpAnyK_take (i := 2) rfl (by kernel_rfl) (by kernel_rfl) (by kernel_rfl) (by kernel_rfl) (fun _ _ _ h => h) (v := ?_) (Or.inl ⟨by rfl, ?_⟩) hSS ?_
        rotate_left
        · rintro W ⟨k4, k0, k3⟩
          go_simp
          try with_reducible rfl
        try simp only [Act.put, List.setIfInBounds_toArray, List.set_cons_zero, List.set_cons_succ]
        refine wpAnyK_take (i := 3) rfl (by kernel_rfl) (by kernel_rfl) (by kernel_rfl) (by kernel_rfl) (fun _ _ _ h => h) (v := ?_) (Or.inl ⟨by rfl, ?_⟩) hSS ?_
        rotate_left
        · rintro W ⟨k4, k0, k3⟩
          go_simp
          try with_reducible rfl
        try simp only [Act.put, List.setIfInBounds_toArray, List.set_cons_zero, List.set_cons_succ]
        refine wpAnyK_take (i := 4) rfl (by kernel_rfl) (by kernel_rfl) (by kernel_rfl) (by kernel_rfl) (fun _ _ _ h => h) (v := ?_) (Or.inl ⟨by rfl, ?_⟩) hSS ?_
        rotate_left
        · rintro W ⟨k4, k0, k3⟩
          go_simp
          try with_reducible rfl
        try simp only [Act.put, List.setIfInBounds_toArray, List.set_cons_zero, List.set_cons_succ]
        refine wpAnyK_take (i := 5) rfl (by kernel_rfl) (by kernel_rfl) (by kernel_rfl) (by kernel_rfl) (fun _ _ _ h => h) (v := ?_) (Or.inl ⟨by rfl, ?_⟩) hSS ?_
        rotate_left
        · rintro W ⟨k4, k0, k3⟩
          go_simp
          try with_reducible rfl
        try simp only [Act.put, List.setIfInBounds_toArray, List.set_cons_zero, List.set_cons_succ]
        refine wpAnyK_take (i := 6) rfl (by kernel_rfl) (by kernel_rfl) (by kernel_rfl) (by kernel_rfl) (fun _ _ _ h => h) (v := ?_) (Or.inl ⟨by rfl, ?_⟩) hSS ?_
        rotate_left
        · rintro W ⟨k4, k0, k3⟩
          go_simp
          try with_reducible rfl
        try simp only [Act.put, List.setIfInBounds_toArray, List.set_cons_zero, List.set_cons_succ]
        refine wpAnyK_take (i := 7) rfl (by kernel_rfl) (by kernel_rfl) (by kernel_rfl) (by kernel_rfl) (fun _ _ _ h => h) (v := ?_) (Or.inl ⟨by rfl, ?_⟩) hSS ?_
        rotate_left
        · rintro W ⟨k4, k0, k3⟩
          go_simp
          try with_reducible rfl
        try simp only [Act.put, List.setIfInBounds_toArray, List.set_cons_zero, List.set_cons_succ]
        refine wpAnyK_take (i := 8) rfl (by kernel_rfl) (by kernel_rfl) (by kernel_rfl) (by kernel_rfl) (fun _ _ _ h => h) (v := ?_) (Or.inl ⟨by rfl, ?_⟩) hSS ?_
        rotate_left
        · rintro W ⟨k4, k0, k3⟩
          go_simp
          try with_reducible rfl
        try simp only [Act.put, List.setIfInBounds_toArray, List.set_cons_zero, List.set_cons_succ]
        refine wpAnyK_take (i := 9) rfl (by kernel_rfl) (by kernel_rfl) (by kernel_rfl) (by kernel_rfl) (fun _ _ _ h => h) (v := ?_) (Or.inl ⟨by rfl, ?_⟩) hSS ?_
        rotate_left
        · rintro W ⟨k4, k0, k3⟩
          go_simp
          try with_reducible rfl
        try simp only [Act.put, List.setIfInBounds_toArray, List.set_cons_zero, List.set_cons_succ]
        refine wpAnyK_take (i := 10) rfl (by kernel_rfl) (by kernel_rfl) (by kernel_rfl) (by kernel_rfl) (fun _ _ _ h => h) (v := ?_) (Or.inl ⟨by rfl, ?_⟩) hSS ?_
        rotate_left
        · rintro W ⟨k4, k0, k3⟩
          go_simp
          try with_reducible rfl
        try simp only [Act.put, List.setIfInBounds_toArray, List.set_cons_zero, List.set_cons_succ]
        refine wpAnyK_take (i := 11) rfl (by kernel_rfl) (by kernel_rfl) (by kernel_rfl) (by kernel_rfl) (fun _ _ _ h => h) (v := ?_) (Or.inl ⟨by rfl, ?_⟩) hSS ?_
        rotate_left
        · rintro W ⟨k4, k0, k3⟩
          go_simp
          try with_reducible rfl
        try simp only [Act.put, List.setIfInBounds_toArray, List.set_cons_zero, List.set_cons_succ]
        refine wpAnyK_take (i := 12) rfl (by kernel_rfl) (by kernel_rfl) (by kernel_rfl) (by kernel_rfl) (fun _ _ _ h => h) (v := ?_) (Or.inl ⟨by rfl, ?_⟩) hSS ?_
        rotate_left
        · rintro W ⟨k4, k0, k3⟩
          go_simp
          try with_reducible rfl
        try simp only [Act.put, List.setIfInBounds_toArray, List.set_cons_zero, List.set_cons_succ]
        refine wpAnyK_ready (rs := [13]) (by kernel_rfl) (by simp) ?_
        intro i hi
        simp only [List.mem_cons, List.not_mem_nil, or_false] at hi
        subst hi
        refine wpOp_in rfl ?_
        intro KC hKC
        go_simp
        refine hKC _ _ ⟨fun _ => hSS, ?_⟩
        try simp only [Act.put, List.setIfInBounds_toArray, List.set_cons_zero, List.set_cons_succ]
        clear hKC
        refine wpAnyK_ready (rs := [14]) (by kernel_rfl) (by simp) ?_
        intro i hi
        simp only [List.mem_cons, List.not_mem_nil, or_false] at hi
        subst hi
        refine wpOp_in rfl ?_
        intro KC hKC
        go_simp
        refine hKC _ _ ⟨fun _ => hSX, ?_⟩
        try simp only [Act.put, List.setIfInBounds_toArray, List.set_cons_zero, List.set_cons_succ]
        clear hKC
        refine wpAnyK_ready (rs := [15]) (by kernel_rfl) (by simp) ?_
        intro i hi
        simp only [List.mem_cons, List.not_mem_nil, or_false] at hi
        subst hi
        refine wpOp_in rfl ?_
        intro KC hKC
        have HOWN : Hid (OwnY (wb.drew.alloc (.cells #[.int .u8 (y.toNat : Int)] 5)) B (.slice a4 L cap4) (l ++ BwtM.follow s.data.toList K j o)) := Lib.hid (World.ownsRow.alloc (show wb.drew.ownsRow B 5 1 (.slice a4 L cap4) _ _ from HI5.out.told) _)
        have HBX : Hid ((wb.drew.alloc (.cells #[.int .u8 (y.toNat : Int)] 5)).cell? ⟨wb.heap.size, 0, none⟩ = some (u8v y)) := Lib.hid (by
          have := cell_of_row _ _ 0 _ _ _ (heap_alloc_new wb.drew (.cells #[.int .u8 (y.toNat : Int)] 5))
          exact this)
        have HBZ : Hid (B ≤ (wb.drew.alloc (.cells #[.int .u8 (y.toNat : Int)] 5)).heap.size) := Lib.hid (by
          have h1 := HB5.out.size
          have h2 : wb.drew.heap.size = wb.heap.size := rfl
          simp
          omega)
        refine step_push_byte (wb.drew.alloc (.cells #[.int .u8 (y.toNat : Int)] 5)) (by rfl) _ _ (by rfl) B wb.heap.size (.slice a4 L cap4) (l ++ BwtM.follow s.data.toList K j o) y HOWN.out (by rfl) (by rfl) HBX.out (by rw [HLL.out]; exact hLb) HBZ.out ?_
        intro v' w6 hO6 hB6 hk6 hf6
        have hz : (wb.drew.alloc (.cells #[.int .u8 (y.toNat : Int)] 5)).heap.size = wb.heap.size + 1 := by show (wb.heap.push _).size = _; simp
        have kt : w6.heap[t]? = wb.heap[t]? := (hk6 t (by rw [hz]; exact Nat.lt_succ_of_lt hLT) (fun e => (HI5.out.lap t e).1 rfl)).trans (alloc_old (w := wb.drew) hLT)
        have hS6 : (fun W : World => W.cell? ⟨t, 259, none⟩ = some (.slice a4 L cap4) ∧ W.cell? ⟨t, 0, none⟩ = some (.string s) ∧ W.cell? ⟨t, 258, none⟩ = some (.int .i64 (p2 : Int))) w6 := ⟨(World.cell?_of_block (w := wb) (a := ⟨t, 259, none⟩) kt).trans c4, (World.cell?_of_block (w := wb) (a := ⟨t, 0, none⟩) kt).trans c0, (World.cell?_of_block (w := wb) (a := ⟨t, 258, none⟩) kt).trans c3⟩
        have f4 : w6.cell? ⟨t, 259, none⟩ = some (.slice a4 L cap4) := hS6.1
        have g4 : w6.frozen? ⟨t, 259, none⟩ = false := (World.frozen?_of_block (w := wb) (a := ⟨t, 259, none⟩) kt).trans (HI5.out.obj.frozen 259 (by omega))
        refine hKC _ _ ⟨fun _ => hS6, ?_⟩
        try simp only [Act.put, List.setIfInBounds_toArray, List.set_cons_zero, List.set_cons_succ]
        clear hKC
        have HTB : Hid (Touch (fun k => (Value.slice a4 L cap4).ownBlock = some k) wb w6) := Lib.hid ⟨hB6.os, hB6.tape, hB6.output, by have := hB6.size; omega, fun k hk hn => (hk6 k (by omega) hn).trans (alloc_old (w := wb.drew) hk)⟩
        have HI6 := Lib.hid (HI5.out.grown HTB.out hO6 (fun k hk => (hf6 k hk).imp id (fun h => by omega)))
        obtain ⟨W7, hW7⟩ : ∃ W7, (w6.setCell ⟨t, 259, none⟩ v') = W7 := ⟨_, rfl⟩
        have hb6 : Touch (fun x => x = t ∨ tv0.ownBlock = some x) w W7 := by
          rw [← hW7]
          exact (HB5.out.trans HTB.out (fun x hx => (HV.out x hx).imp Or.inr id)).setCell (p := ⟨t, 259, none⟩) (Or.inl (Or.inl rfl)) _
        have HV7 : Hid (∀ k, v'.ownBlock = some k → tv0.ownBlock = some k ∨ w.heap.size ≤ k) := Lib.hid (fun k hk => by
          have hsz := HB5.out.size
          have hs2 : w.heap.size ≤ wb.heap.size := hsz
          rcases hf6 k hk with e | e
          · exact HV.out k e
          · exact Or.inr (by omega))
        have HB6 := Lib.hid hb6
        rw [hW7] at HI6
        obtain ⟨_, _, _, _, _, _, c7⟩ := HI6.out.obj.cells
        have e7 := HI6.out.obj.frozen 262 (by omega)
        obtain ⟨f, hf2⟩ : ∃ f, nf + j = f := ⟨_, rfl⟩
        rw [hf2] at c7
        have hfi : (f : Int) + 1 = ((f + 1 : Nat) : Int) := by omega
        have hfw : IntKind.i64.wrap ((f + 1 : Nat) : Int) = ((f + 1 : Nat) : Int) := IntWalk.i64_in _ (by omega)
        obtain ⟨f1, hf1⟩ : ∃ f1, f + 1 = f1 := ⟨_, rfl⟩
        rw [hf1] at hfi hfw
        have HF8 : Hid (FwSt tv0 w B (W7.setCell ⟨t, 262, none⟩ (.int .i64 (f1 : Int))) t g s C K l o nc nl nf (j + 1)) := Lib.hid (by
          have h8 := HI6.out.own (touch_cell (i := 262) (Touch.refl _ _)) (HI6.out.obj.set262 f1)
          refine ⟨v', HV7.out, ?_⟩
          rw [UnM.follow_next, HP2.out, HY.out, ← List.append_assoc, show nf + (j + 1) = f1 by omega]
          exact h8)
        have HB8 : Hid (Touch (fun x => x = t ∨ tv0.ownBlock = some x) w (W7.setCell ⟨t, 262, none⟩ (.int .i64 (f1 : Int)))) := Lib.hid (HB6.out.setCell (p := ⟨t, 262, none⟩) (Or.inl (Or.inl rfl)) _)
        obtain ⟨va, vc, hve⟩ := hO6.slice
        obtain ⟨vl, hvl⟩ : ∃ vl, (l ++ BwtM.follow s.data.toList K j o ++ [y]).length = vl := ⟨_, rfl⟩
        rw [hvl] at hve
        subst hve
        clear hvl hf2 hf1 hb6
        refine wpAnyK_ready (rs := [16]) (by kernel_rfl) (by simp) ?_
        intro i hi
        simp only [List.mem_cons, List.not_mem_nil, or_false] at hi
        subst hi
        refine wpOp_in rfl ?_
        intro KC hKC
        go_simp
        refine hKC _ _ ⟨fun _ => hS6, ?_⟩
        try simp only [Act.put, List.setIfInBounds_toArray, List.set_cons_zero, List.set_cons_succ]
        clear hKC
        refine wpAnyK_ready (rs := [17]) (by kernel_rfl) (by simp) ?_
        intro i hi
        simp only [List.mem_cons, List.not_mem_nil, or_false] at hi
        subst hi
        refine wpOp_in rfl ?_
        intro KC hKC
        go_simp
        refine hKC _ _ ⟨fun _ => hS6, ?_⟩
        try simp only [Act.put, List.setIfInBounds_toArray, List.set_cons_zero, List.set_cons_succ]
        clear hKC
        refine wpAnyK_ready (rs := [18]) (by kernel_rfl) (by simp) ?_
        intro i hi
        simp only [List.mem_cons, List.not_mem_nil, or_false] at hi
        subst hi
        refine wpOp_in rfl ?_
        intro KC hKC
        go_simp
        refine hKC _ _ ⟨fun h => absurd rfl h, ?_⟩
        refine wpAnyK_done (by kernel_rfl) ?_ _
        clear f4 g4 hSS hSX kt hz
        go_wp2_with fail
        go_roundw
        case rel => exact ⟨j + 1, 0, by go_num, by omega, HF8.out, HB8.out⟩
        case measure => simp [intOf]; omega
      · have hji : ¬ (j : Int) < (n : Int) := by omega
        have hje : j = n := by omega
        have HE := Lib.hid hje
        clear hI hB hje
        go_wp2_with fail
        go_ret
        exact ⟨rfl, by rw [← HE.out]; exact HF.out, HB.out⟩
end
end Go.Proofs.Ytglpbianmbjoeaa
namespace Go.Proofs.Ytglpbianmbjoeaa
open Go.RowKit BwtM PkM
set_option linter.unusedVariables false
set_option linter.unusedSimpArgs false
theorem UnM.follow_add (L : List UInt8) (K : List Nat) : ∀ j k o, BwtM.follow L K (j + k) o = BwtM.follow L K j o ++ BwtM.follow L K k (UnM.plc K o j)
  | 0, k, o => by rw [Nat.zero_add]; rfl
  | j + 1, k, o => by
    rw [show j + 1 + k = (j + k) + 1 by omega]
    show L.getD (K.getD o 0) 0 :: BwtM.follow L K (j + k) (K.getD o 0) = (L.getD (K.getD o 0) 0 :: BwtM.follow L K j (K.getD o 0)) ++ _
    rw [UnM.follow_add L K j k, UnM.plc_shift K o j]
    rfl
theorem UnM.plc_add (K : List Nat) (o : Nat) (j : Nat) : ∀ k, UnM.plc K (UnM.plc K o j) k = UnM.plc K o (j + k)
  | 0 => rfl
  | k + 1 => by
    show K.getD (UnM.plc K (UnM.plc K o j) k) 0 = K.getD (UnM.plc K o (j + k)) 0
    rw [UnM.plc_add K o j k]
/-- What stands at each byte when nc bytes were counted and nl places linked. -/
def cntA (L : List UInt8) (n nc nl : Nat) : Nat → Nat := if nc = n then UnM.nxt L nl else UnM.cnt L nc
/-- What an inverter may turn: its own block, its row of links, its row of bytes. -/
def ftU (t g : Nat) (v0 : Value) (x : Nat) : Prop := x = t ∨ x = g ∨ v0.ownBlock = some x
/-- An inverter inside a step that began at w0: nc were counted, nl linked, nf followed. -/
def PhSt (v0 : Value) (w0 : World) (B : Nat) (w : World) (t g : Nat) (s : ByteArray) (o : Nat) (l : List UInt8) (nc nl nf : Nat) : Prop :=
  Touch (ftU t g v0) w0 w ∧ ∃ tv, (∀ k, tv.ownBlock = some k → v0.ownBlock = some k ∨ w0.heap.size ≤ k) ∧ IsIn B w t g s (cntA s.data.toList s.size nc nl) (toI (UnM.rowAt s.data.toList nl)) l (UnM.plc (UnM.links s.data.toList) o nf) nc nl nf tv
theorem PhSt.drewN {v0 : Value} {w0 : World} {B : Nat} {w : World} {t g : Nat} {s : ByteArray} {o : Nat} {l : List UInt8} {nc nl nf : Nat} (h : PhSt v0 w0 B w t g s o l nc nl nf) (m : Nat) : PhSt v0 w0 B (w.drewN m) t g s o l nc nl nf := by
  obtain ⟨h1, tv, h2, h3⟩ := h
  exact ⟨h1.trans (touch_drewN _ w m) (fun _ h => Or.inl h), tv, h2, h3.below (below_drewN _ _)⟩
section
variable {B t g : Nat} {s : ByteArray} {zs : List Int} {l : List UInt8} {pl nc nl nf : Nat} {tv : Value} {C : Nat → Nat}
set_option maxRecDepth 100000 in
set_option maxHeartbeats 8000000 in
/-- Nothing is linked. -/
theorem unlink_none (w : World) (q : Nat) (h : IsIn B w t g s C zs l pl nc nl nf tv) (hk : nl ≤ s.size) (hs : s.size ≤ 1000000) (hq : q ≤ 9223372036854775807) (h0 : nl = s.size ∨ q = 0) :
    Calls Try.prog 26 #[.pointer (some ⟨t, 0, none⟩), .int .i64 (q : Int)] w fun e w' => e = .returned (.int .i64 0) ∧ ∃ m, w' = w.drewN m := by
  obtain ⟨c0, _, _, _, _, c6, _⟩ := h.obj.cells
  obtain ⟨d, hd⟩ : ∃ d, s.size - nl = d := ⟨_, rfl⟩
  have hdi : (s.size : Int) - (nl : Int) = (d : Int) := by omega
  have hdw : IntKind.i64.wrap (d : Int) = (d : Int) := IntWalk.i64_in _ (by omega)
  obtain ⟨n, hn⟩ : ∃ n, min q d = n := ⟨_, rfl⟩
  have hn0 : n = 0 := by omega
  have hni : ¬ (0 : Int) < (n : Int) := by omega
  have HN := Lib.hid hn0
  have hcs : (d < q ∧ n = d) ∨ (¬ d < q ∧ n = q) := by omega
  clear h hd hn hn0 hk h0
  rcases hcs with ⟨hdq, rfl⟩ | ⟨hdq, rfl⟩
  all_goals
    go_enter Try.func26, Try.ntmps26
    go_wp2_with fail
    go_quiet (fail)
    go_wp2_with fail
    go_loopw [20] (fun vj wr => vj = .int .i64 0 ∧ ∃ m, wr = w.drewN m) (fun _ _ => 0)
    case atStart => exact ⟨rfl, _, rfl⟩
    case round =>
      obtain ⟨rfl, m, rfl⟩ := hrel
      go_wp2_with fail
      go_ret
      exact ⟨by rw [HN.out]; rfl, _, rfl⟩
set_option maxRecDepth 100000 in
set_option maxHeartbeats 8000000 in
/-- Nothing is followed. -/
theorem unfollow_none (w : World) (q : Nat) (h : IsIn B w t g s C zs l pl nc nl nf tv) (hk : nf ≤ s.size) (hs : s.size ≤ 1000000) (hq : q ≤ 9223372036854775807) (h0 : nf = s.size ∨ q = 0) :
    Calls Try.prog 29 #[.pointer (some ⟨t, 0, none⟩), .int .i64 (q : Int)] w fun e w' => e = .returned (.int .i64 0) ∧ ∃ m, w' = w.drewN m := by
  obtain ⟨c0, _, _, _, _, _, c7⟩ := h.obj.cells
  obtain ⟨d, hd⟩ : ∃ d, s.size - nf = d := ⟨_, rfl⟩
  have hdi : (s.size : Int) - (nf : Int) = (d : Int) := by omega
  have hdw : IntKind.i64.wrap (d : Int) = (d : Int) := IntWalk.i64_in _ (by omega)
  obtain ⟨n, hn⟩ : ∃ n, min q d = n := ⟨_, rfl⟩
  have hn0 : n = 0 := by omega
  have hni : ¬ (0 : Int) < (n : Int) := by omega
  have HN := Lib.hid hn0
  have hcs : (d < q ∧ n = d) ∨ (¬ d < q ∧ n = q) := by omega
  clear h hd hn hn0 hk h0
  rcases hcs with ⟨hdq, rfl⟩ | ⟨hdq, rfl⟩
  all_goals
    go_enter Try.func29, Try.ntmps29
    go_wp2_with fail
    go_quiet (fail)
    go_wp2_with fail
    go_loopw [19] (fun vj wr => vj = .int .i64 0 ∧ ∃ m, wr = w.drewN m) (fun _ _ => 0)
    case atStart => exact ⟨rfl, _, rfl⟩
    case round =>
      obtain ⟨rfl, m, rfl⟩ := hrel
      go_wp2_with fail
      go_ret
      exact ⟨by rw [HN.out]; rfl, _, rfl⟩
variable {v0 : Value} {w0 : World} {o : Nat}

theorem ph_count (w : World) (q : Nat) (h : PhSt v0 w0 B w t g s o l nc nl nf) (hc : nc ≤ s.size) (hn : nc < s.size → nl = 0) (hs : s.size ≤ 100000) (hq : q ≤ 9223372036854775807) :
    Calls Try.prog 25 #[.pointer (some ⟨t, 0, none⟩), .int .i64 (q : Int)] w fun e w' => e = .returned (.int .i64 ((min q (s.size - nc) : Nat) : Int)) ∧ PhSt v0 w0 B w' t g s o l (nc + min q (s.size - nc)) nl nf := by
  by_cases h0 : nc = s.size ∨ q = 0
  · obtain ⟨h1, tv, h2, h3⟩ := id h
    refine (uncount_none w nc q h3 hc (by omega) hq h0).mono ?_
    rintro e w' ⟨rfl, m, rfl⟩
    have e0 : min q (s.size - nc) = 0 := by omega
    rw [e0]
    exact ⟨rfl, h.drewN m⟩
  · have hlt : nc < s.size := by omega
    obtain ⟨h1, tv, h2, h3⟩ := h
    have e1 : nl = 0 := hn hlt
    have h4 : CtSt B w t g s (toI (UnM.rowAt s.data.toList nl)) l (UnM.plc (UnM.links s.data.toList) o nf) nc nl nf tv := by
      unfold CtSt
      unfold cntA at h3
      rw [if_neg (by omega)] at h3
      exact h3
    refine (uncount_any w nc q h4 hlt (by omega) hq (by omega)).mono ?_
    rintro e w' ⟨rfl, h5, h6⟩
    refine ⟨rfl, h1.trans h6 (fun i hi => Or.inl (Or.inl hi)), tv, h2, ?_⟩
    have e2 : cntA s.data.toList s.size (nc + min q (s.size - nc)) nl = cntS s.data.toList s.size (nc + min q (s.size - nc)) := by
      unfold cntA cntS
      rw [e1]
    rw [e2]
    exact h5
theorem ph_link (w : World) (q : Nat) (h : PhSt v0 w0 B w t g s o l nc nl nf) (hc : nl ≤ s.size) (hn : nc = s.size ∨ q = 0) (hs : s.size ≤ 100000) (hq : q ≤ 9223372036854775807) :
    Calls Try.prog 26 #[.pointer (some ⟨t, 0, none⟩), .int .i64 (q : Int)] w fun e w' => e = .returned (.int .i64 ((min q (s.size - nl) : Nat) : Int)) ∧ PhSt v0 w0 B w' t g s o l nc (nl + min q (s.size - nl)) nf := by
  by_cases h0 : nl = s.size ∨ q = 0
  · obtain ⟨h1, tv, h2, h3⟩ := id h
    refine (unlink_none w q h3 hc (by omega) hq h0).mono ?_
    rintro e w' ⟨rfl, m, rfl⟩
    have e0 : min q (s.size - nl) = 0 := by omega
    rw [e0]
    exact ⟨rfl, h.drewN m⟩
  · have hne : nc = s.size := by omega
    obtain ⟨h1, tv, h2, h3⟩ := h
    have h4 : LkSt B w t g s l (UnM.plc (UnM.links s.data.toList) o nf) nc nl nf tv := by
      unfold LkSt
      unfold cntA at h3
      rw [if_pos hne] at h3
      exact h3
    refine (unlink_any w nl q h4 hc (by omega) hq).mono ?_
    rintro e w' ⟨rfl, h5, h6⟩
    refine ⟨rfl, h1.trans h6 (fun i hi => Or.inl (hi.imp id Or.inl)), tv, h2, ?_⟩
    unfold LkSt at h5
    unfold cntA
    rw [if_pos hne]
    exact h5
theorem ph_follow (w : World) (q : Nat) (h : PhSt v0 w0 B w t g s o l nc nl nf) (hc : nf ≤ s.size) (hn : nl = s.size ∨ q = 0) (hs : s.size ≤ 100000) (hl : l.length ≤ 100000) (hq : q ≤ 9223372036854775807) (ho : o < s.size) (hbw : B ≤ w.heap.size) :
    Calls Try.prog 29 #[.pointer (some ⟨t, 0, none⟩), .int .i64 (q : Int)] w fun e w' => e = .returned (.int .i64 ((min q (s.size - nf) : Nat) : Int)) ∧ PhSt v0 w0 B w' t g s o (l ++ BwtM.follow s.data.toList (UnM.links s.data.toList) (min q (s.size - nf)) (UnM.plc (UnM.links s.data.toList) o nf)) nc nl (nf + min q (s.size - nf)) := by
  by_cases h0 : nf = s.size ∨ q = 0
  · obtain ⟨h1, tv, h2, h3⟩ := id h
    refine (unfollow_none w q h3 hc (by omega) hq h0).mono ?_
    rintro e w' ⟨rfl, m, rfl⟩
    have e0 : min q (s.size - nf) = 0 := by omega
    rw [e0]
    refine ⟨rfl, ?_⟩
    show PhSt v0 w0 B (w.drewN m) t g s o (l ++ []) nc nl nf
    rw [List.append_nil]
    exact h.drewN m
  · have hne : nl = s.size := by omega
    obtain ⟨h1, tv, h2, h3⟩ := h
    have hlen := un_len s
    have hr : UnM.rowAt s.data.toList nl = UnM.links s.data.toList := UnM.rowAt_all _ (by omega)
    rw [hr] at h3
    refine (unfollow_any w q tv h3 (fun p hp => by have := UnM.links_lt (L := s.data.toList) (p := p) (by omega); omega) (by have := UnM.plc_lt (L := s.data.toList) (o := o) (by omega) nf; omega) hc hs hl hq hbw).mono ?_
    rintro e w' ⟨rfl, ⟨tv', h5, h6⟩, h7⟩
    refine ⟨rfl, h1.trans h7 (fun i hi => ?_), tv', fun k hk => ?_, ?_⟩
    · rcases hi with hi | hi
      · exact Or.inl (Or.inl hi)
      · exact (h2 i hi).imp (fun e => Or.inr (Or.inr e)) id
    · rcases h5 k hk with e | e
      · exact h2 k e
      · exact Or.inr (Nat.le_trans h1.size e)
    · rw [hr]
      rw [UnM.plc_add] at h6
      exact h6
/-- An inverter when G steps were gone; l waits. -/
def UnSt (B : Nat) (w : World) (t g : Nat) (s : ByteArray) (o G : Nat) (l : List UInt8) (tv : Value) : Prop :=
  IsIn B w t g s (cntA s.data.toList s.size (min G s.size) (min (G - s.size) s.size)) (toI (UnM.rowAt s.data.toList (min (G - s.size) s.size))) l (UnM.plc (UnM.links s.data.toList) o (G - 2 * s.size)) (min G s.size) (min (G - s.size) s.size) (G - 2 * s.size) tv
theorem UnSt.ph {w : World} {G : Nat} (h : UnSt B w t g s o G l tv) : PhSt tv w B w t g s o l (min G s.size) (min (G - s.size) s.size) (G - 2 * s.size) :=
  ⟨Touch.refl _ _, tv, fun k hk => Or.inl hk, h⟩
/-- What is told when m further steps go behind G. -/
def tolU (s : ByteArray) (o G m : Nat) : List UInt8 := BwtM.follow s.data.toList (UnM.links s.data.toList) ((G + m - 2 * s.size) - (G - 2 * s.size)) (UnM.plc (UnM.links s.data.toList) o (G - 2 * s.size))
set_option maxRecDepth 100000 in
set_option maxHeartbeats 8000000 in
theorem unstep_any (w : World) (z : Int) (G : Nat) (h : UnSt B w t g s o G l tv) (hG : G ≤ 3 * s.size) (hs : s.size ≤ 100000) (hl : l.length ≤ 100000) (ho : o < s.size) (hz : z ≤ 9223372036854775807) (hbw : B ≤ w.heap.size) :
    Calls Try.prog 17 #[.pointer (some ⟨t, 0, none⟩), .int .i64 z] w fun e w' => e = .returned (.int .i64 ((min z.toNat (3 * s.size - G) : Nat) : Int)) ∧ (∃ tv', UnSt B w' t g s o (G + min z.toNat (3 * s.size - G)) (l ++ tolU s o G (min z.toNat (3 * s.size - G))) tv') ∧ Touch (ftU t g tv) w w' := by
  by_cases hz1 : z < 1
  · have e0 : min z.toNat (3 * s.size - G) = 0 := by omega
    have HR : Hid (∃ tv', UnSt B w t g s o (G + 0) (l ++ tolU s o G 0) tv') := Lib.hid ⟨tv, by
      unfold tolU
      rw [Nat.add_zero, Nat.sub_self]
      show UnSt B w t g s o G (l ++ []) tv
      rw [List.append_nil]
      exact h⟩
    rw [e0]
    clear h hs hl ho hG e0
    go_enter Try.func17, Try.ntmps17
    go_wp2_with fail
    go_ret
    exact ⟨rfl, HR.out, Touch.refl _ _⟩
  · obtain ⟨q, rfl⟩ : ∃ q : Nat, z = (q : Int) := ⟨z.toNat, by omega⟩
    rw [Int.toNat_natCast]
    have hsz := h.len
    obtain ⟨m, hm⟩ : ∃ m, min q (3 * s.size - G) = m := ⟨_, rfl⟩
    obtain ⟨m1, hm1⟩ : ∃ m1, min q (s.size - min G s.size) = m1 := ⟨_, rfl⟩
    obtain ⟨q1, hq1⟩ : ∃ q1, q - m1 = q1 := ⟨_, rfl⟩
    obtain ⟨m2, hm2⟩ : ∃ m2, min q1 (s.size - min (G - s.size) s.size) = m2 := ⟨_, rfl⟩
    obtain ⟨q2, hq2⟩ : ∃ q2, q1 - m2 = q2 := ⟨_, rfl⟩
    obtain ⟨m3, hm3⟩ : ∃ m3, min q2 (s.size - (G - 2 * s.size)) = m3 := ⟨_, rfl⟩
    have hq1i : (q : Int) - (m1 : Int) = (q1 : Int) := by omega
    have hq1w : IntKind.i64.wrap (q1 : Int) = (q1 : Int) := IntWalk.i64_in _ (by omega)
    obtain ⟨a, ha⟩ : ∃ a, m1 + m2 = a := ⟨_, rfl⟩
    have hai : (m1 : Int) + (m2 : Int) = (a : Int) := by omega
    have haw : IntKind.i64.wrap (a : Int) = (a : Int) := IntWalk.i64_in _ (by omega)
    have hq2i : (q : Int) - (a : Int) = (q2 : Int) := by omega
    have hq2w : IntKind.i64.wrap (q2 : Int) = (q2 : Int) := IntWalk.i64_in _ (by omega)
    have hbi : (a : Int) + (m3 : Int) = (m : Int) := by omega
    have hbw2 : IntKind.i64.wrap (m : Int) = (m : Int) := IntWalk.i64_in _ (by omega)
    have HC1 := Lib.hid (ph_count w q h.ph (by omega) (by omega) hs (by omega))
    have HC2 := Lib.hid (fun W (h : PhSt tv w B W t g s o l (min G s.size + m1) (min (G - s.size) s.size) (G - 2 * s.size)) => ph_link W q1 h (by omega) (by omega) hs (by omega))
    have HC3 := Lib.hid (fun W (h : PhSt tv w B W t g s o l (min G s.size + m1) (min (G - s.size) s.size + m2) (G - 2 * s.size)) => ph_follow W q2 h (by omega) (by omega) hs hl (by omega) ho (Nat.le_trans hbw h.1.size))
    rw [hm1] at HC1
    rw [hm2] at HC2
    rw [hm3] at HC3
    rw [hm]
    have HE : Hid (min G s.size + m1 = min (G + m) s.size ∧ min (G - s.size) s.size + m2 = min (G + m - s.size) s.size ∧ G - 2 * s.size + m3 = G + m - 2 * s.size ∧ m3 = (G + m - 2 * s.size) - (G - 2 * s.size)) := Lib.hid (by omega)
    clear h hs hl ho hG hm hm1 hm2 hm3 hq1 hq2 ha hbw hsz
    go_enter Try.func17, Try.ntmps17
    go_wp2_with fail
    refine HC1.out.mono ?_
    rintro e w1 ⟨rfl, h1⟩
    have H1 := Lib.hid h1
    clear h1
    go_wp2_with fail
    refine (HC2.out _ H1.out).mono ?_
    rintro e w2 ⟨rfl, h2⟩
    have H2 := Lib.hid h2
    clear h2
    go_wp2_with fail
    refine (HC3.out _ H2.out).mono ?_
    rintro e w3 ⟨rfl, h3⟩
    have H3 := Lib.hid h3
    clear h3
    go_wp2_with fail
    go_ret
    obtain ⟨e1, e2, e3, e4⟩ := HE.out
    obtain ⟨k1, tv', k2, k3⟩ := H3.out
    refine ⟨rfl, ⟨tv', ?_⟩, k1⟩
    unfold UnSt tolU
    rw [← e4, ← e1, ← e2, ← e3]
    exact k3
end
end Go.Proofs.Ytglpbianmbjoeaa
namespace Go.Proofs.Ytglpbianmbjoeaa
open Go.RowKit BwtM PkM
set_option linter.unusedVariables false
set_option linter.unusedSimpArgs false
theorem ph_start {B : Nat} {w : World} {t g : Nat} {s : ByteArray} {o : Nat} (h : IsIn B w t g s (fun _ => 0) (List.replicate s.size 0) [] o 0 0 0 (.slice none 0 0)) (h0 : 0 < s.size) : UnSt B w t g s o 0 [] (.slice none 0 0) := by
  unfold UnSt
  have hl := un_len s
  have e1 : cntA s.data.toList s.size (min 0 s.size) (min (0 - s.size) s.size) = fun _ => 0 := by
    funext b
    unfold cntA
    rw [if_neg (by omega), Nat.zero_min]
    exact UnM.cnt_zero _ _
  have e2 : toI (UnM.rowAt s.data.toList (min (0 - s.size) s.size)) = List.replicate s.size 0 := by
    rw [show min (0 - s.size) s.size = 0 by omega, UnM.rowAt_zero, hl]
    simp [toI]
  rw [e1, e2]
  simp only [Nat.zero_sub, Nat.zero_min]
  exact h
theorem unlinks_nat (s : ByteArray) : (UnM.links s.data.toList).length = s.size := by rw [UnM.links_len, un_len]
set_option maxRecDepth 100000 in
set_option maxHeartbeats 8000000 in
theorem unlinks_any (s : ByteArray) (w : World) (hs : s.size ≤ 100000) : Calls Try.prog 12 #[.string s] w fun e w' => ∃ g, e = .returned (.slice (some ⟨g, 0, none⟩) s.size s.size) ∧ RowI w' g (toI (UnM.links s.data.toList)) ∧ Below w.heap.size w w' := by
  have hl := un_len s
  have HI := Lib.hid (inverter_any s 0 w (by omega))
  obtain ⟨n, hn⟩ : ∃ n, s.size = n := ⟨_, rfl⟩
  have hsi : (s.size : Int) = (n : Int) := by omega
  have HC := Lib.hid (fun W t g (h : PhSt (.slice none 0 0) W w.heap.size W t g s 0 [] 0 0 0) => ph_count W n h (by omega) (fun _ => rfl) hs (by omega))
  have HK := Lib.hid (fun W0 W t g (h : PhSt (.slice none 0 0) W0 w.heap.size W t g s 0 [] n 0 0) => ph_link W n h (by omega) (Or.inl hn.symm) hs (by omega))
  have e1 : min n (s.size - 0) = n := by omega
  rw [e1] at HC HK
  simp only [Nat.zero_add] at HC HK
  have HST : Hid (∀ W t g, IsIn w.heap.size W t g s (fun _ => 0) (List.replicate s.size 0) [] 0 0 0 0 (.slice none 0 0) → PhSt (.slice none 0 0) W w.heap.size W t g s 0 [] 0 0 0) := Lib.hid (fun W t g h => by
    refine ⟨Touch.refl _ _, .slice none 0 0, fun k hk => (by cases hk), ?_⟩
    have e2 : toI (UnM.rowAt s.data.toList 0) = List.replicate s.size 0 := by
      rw [UnM.rowAt_zero, hl]
      simp [toI]
    have e3 : cntA s.data.toList s.size 0 0 = fun _ => 0 := by
      funext b
      unfold cntA
      by_cases hz : 0 = s.size
      · rw [if_pos hz]
        show UnM.fst_ _ _ + UnM.cnt _ 0 b = 0
        rw [UnM.cnt_zero]
        have := UnM.fst_le s.data.toList b
        omega
      · rw [if_neg hz]; exact UnM.cnt_zero _ _
    rw [e2, e3]
    exact h)
  have HEND : Hid (∀ W0 W t g, PhSt (.slice none 0 0) W0 w.heap.size W t g s 0 [] n n 0 → Below w.heap.size w W0 → (W.cell? ⟨t, 257, none⟩ = some (.slice (some ⟨g, 0, none⟩) n n)) ∧ RowI W g (toI (UnM.links s.data.toList)) ∧ Below w.heap.size w W) := Lib.hid (fun W0 W t g h hb => by
    obtain ⟨h1, tv, h2, h3⟩ := h
    have hr : UnM.rowAt s.data.toList n = UnM.links s.data.toList := UnM.rowAt_all _ (by omega)
    rw [hr] at h3
    have hc := h3.obj.cells.2.1
    rw [hn] at hc
    refine ⟨hc, h3.row, hb.trans (h1.below hb.size (fun i hi => ?_))⟩
    rcases hi with rfl | rfl | hi
    · exact h3.base
    · exact h3.gase
    · cases hi)
  have HN := Lib.hid hn
  clear hl hn e1 hs
  go_enter Try.func12, Try.ntmps12
  go_wp2_with fail
  refine HI.out.mono ?_
  rintro e w1 ⟨t, g, rfl, h1, hb1⟩
  have H1 := Lib.hid (HST.out _ _ _ h1)
  have HB1 := Lib.hid hb1
  clear h1 hb1
  go_wp2_with fail
  refine (HC.out _ _ _ H1.out).mono ?_
  rintro e w2 ⟨rfl, h2⟩
  have H2 := Lib.hid h2
  clear h2
  go_wp2_with fail
  refine (HK.out _ _ _ _ H2.out).mono ?_
  rintro e w3 ⟨rfl, h3⟩
  have H3 := HEND.out _ _ _ _ h3 HB1.out
  have c2 := H3.1
  have HR := Lib.hid H3.2
  clear h3 H3
  go_wp2_with fail
  go_ret
  exact ⟨g, by rw [HN.out]; rfl, HR.out.1, HR.out.2⟩
/-- The text of last bytes and an origin. -/
def unText (s : ByteArray) (o : Nat) : ByteArray := ⟨(BwtM.follow s.data.toList (UnM.links s.data.toList) s.size o).toArray⟩
theorem unText_size (s : ByteArray) (o : Nat) : (unText s o).size = s.size := by
  have := UnM.follow_len s.data.toList (UnM.links s.data.toList) s.size o
  show (⟨(BwtM.follow s.data.toList (UnM.links s.data.toList) s.size o).toArray⟩ : ByteArray).size = _
  rw [text_size]
  exact this
set_option maxRecDepth 100000 in
set_option maxHeartbeats 8000000 in
theorem unof_any (s : ByteArray) (o : Nat) (w : World) (hs : s.size ≤ 100000) (h0 : 0 < s.size) (ho : o < s.size) : Calls Try.prog 10 #[.string s, .int .i64 (o : Int)] w fun e w' => e = .returned (.tuple #[.string (unText s o), .int .i64 0]) ∧ Below w.heap.size w w' := by
  have HI := Lib.hid (unnew_any s o w h0 (by omega) ho)
  obtain ⟨n3, hn3⟩ : ∃ n3, 3 * s.size = n3 := ⟨_, rfl⟩
  have hn3i : (3 : Int) * (s.size : Int) = (n3 : Int) := by omega
  have hn3j : (s.size : Int) * (3 : Int) = (n3 : Int) := by omega
  have hn3w : IntKind.i64.wrap (n3 : Int) = (n3 : Int) := IntWalk.i64_in _ (by omega)
  have HST : Hid (∀ W t g, w.heap.size ≤ W.heap.size → IsIn w.heap.size W t g s (fun _ => 0) (List.replicate s.size 0) [] o 0 0 0 (.slice none 0 0) → Calls Try.prog 17 #[.pointer (some ⟨t, 0, none⟩), .int .i64 (n3 : Int)] W fun e w' => e = .returned (.int .i64 (n3 : Int)) ∧ (∃ C zs pl nc nl nf tv', IsIn w.heap.size w' t g s C zs (unText s o).data.toList pl nc nl nf tv') ∧ Below w.heap.size W w') := Lib.hid (fun W t g hW h => by
    have hu := ph_start h h0
    refine (unstep_any W (n3 : Int) 0 hu (by omega) hs (by simp) ho (by omega) hW).mono ?_
    rintro e w' ⟨rfl, ⟨tv', h5⟩, h6⟩
    rw [Int.toNat_natCast, show min n3 (3 * s.size - 0) = n3 by omega] at h5 ⊢
    unfold UnSt tolU at h5
    rw [show 0 + n3 - 2 * s.size - (0 - 2 * s.size) = s.size by omega, show 0 - 2 * s.size = 0 by omega] at h5
    refine ⟨rfl, ⟨_, _, _, _, _, _, tv', h5⟩, h6.below hW (fun i hi => ?_)⟩
    · rcases hi with rfl | rfl | hi
      · exact h.base
      · exact h.gase
      · cases hi)
  obtain ⟨T, hT⟩ : ∃ T, unText s o = T := ⟨_, rfl⟩
  rw [hT] at HST ⊢
  clear hT hn3 hs h0 ho
  go_enter Try.func10, Try.ntmps10
  go_wp2_with fail
  refine HI.out.mono ?_
  rintro e w1 ⟨t, g, rfl, h1, hb1⟩
  have H1 := Lib.hid h1
  have HB1 := Lib.hid hb1
  clear h1 hb1
  go_wp2_with fail
  refine (HST.out _ _ _ HB1.out.size H1.out).mono ?_
  rintro e w2 ⟨rfl, ⟨C, zs, pl, nc, nl, nf, tv', h2⟩, hb2⟩
  have H2 := Lib.hid h2
  have HB2 := Lib.hid (HB1.out.trans hb2)
  clear h2 hb2
  go_wp2_with fail
  refine (untake_any _ H2.out).mono ?_
  rintro e w3 ⟨rfl, _, ht⟩
  have HB3 := Lib.hid (HB2.out.trans (ht.below HB2.out.size (fun i hi => by rw [hi]; exact H2.out.base)))
  clear ht
  go_wp2_with fail
  go_ret2
  exact ⟨rfl, HB3.out⟩
set_option maxHeartbeats 2000000 in
theorem unof_empty (o : Int) (w : World) : Calls Try.prog 10 #[.string ByteArray.empty, .int .i64 o] w fun e w' => e = .returned (.tuple #[.string ⟨#[]⟩, .int .i64 1]) ∧ w' = w := by
  have HN := Lib.hid (unnew_empty o w)
  go_enter Try.func10, Try.ntmps10
  go_wp2_with fail
  refine HN.out.mono ?_
  rintro e w1 ⟨rfl, rfl⟩
  go_wp2_with fail
  go_ret2
  exact ⟨rfl, rfl⟩
set_option maxHeartbeats 2000000 in
theorem unof_out (s : ByteArray) (o : Int) (w : World) (h0 : 0 < s.size) (hs : s.size ≤ 900000) (ho : o < 0 ∨ (s.size : Int) ≤ o) : Calls Try.prog 10 #[.string s, .int .i64 o] w fun e w' => e = .returned (.tuple #[.string ⟨#[]⟩, .int .i64 23]) ∧ ∃ m, w' = w.drewN m := by
  have HN := Lib.hid (unnew_out s o w h0 hs ho)
  clear h0 hs ho
  go_enter Try.func10, Try.ntmps10
  go_wp2_with fail
  refine HN.out.mono ?_
  rintro e w1 ⟨rfl, m, rfl⟩
  go_wp2_with fail
  go_ret2
  exact ⟨rfl, _, rfl⟩
end Go.Proofs.Ytglpbianmbjoeaa
namespace Go.Proofs.Ytglpbianmbjoeaa
open Go.RowKit BwtM PkM
set_option linter.unusedVariables false
set_option linter.unusedSimpArgs false
/-- The places of one byte among the first k. -/
def blkK (L : List UInt8) (b k : Nat) : List Nat := (List.range k).filter fun i => UnM.by_ L i == b
theorem blkK_next (L : List UInt8) (b k : Nat) : blkK L b (k + 1) = blkK L b k ++ (if UnM.by_ L k = b then [k] else []) := by
  unfold blkK
  rw [List.range_succ, List.filter_append]
  congr 1
  by_cases h : UnM.by_ L k = b
  · rw [if_pos h]; simp [h]
  · rw [if_neg h]; simp [h]
theorem blkK_len (L : List UInt8) (b k : Nat) : (blkK L b k).length ≤ k := by
  unfold blkK
  have := List.length_filter_le (fun i => UnM.by_ L i == b) (List.range k)
  rwa [List.length_range] at this
theorem blkK_all (L : List UInt8) (b : Nat) : blkK L b L.length = UnM.blk L b := rfl
theorem toI_snoc (l : List Nat) (k : Nat) : toI (l ++ [k]) = toI l ++ [(k : Int)] := by rw [toI_app]; rfl
set_option maxRecDepth 100000 in
set_option maxHeartbeats 8000000 in
theorem rlinks_any (s : ByteArray) (w : World) (hs : s.size ≤ 100000) : Calls Try.prog 13 #[.string s] w fun e w' => ∃ v, e = .returned v ∧ OwnI w' w.heap.size v (toI (UnM.links s.data.toList)) ∧ Below w.heap.size w w' := by
  have hl := un_len s
  have HL := Lib.hid hl
  clear hl
  go_enter Try.func13, Try.ntmps13
  go_wp2_with fail
  go_loopw [6, 3] (fun vb vo wr => ∃ b : Nat, vb = .int .i64 (b : Int) ∧ b ≤ 256 ∧ OwnI wr w.heap.size vo (toI (UnM.linksU s.data.toList b)) ∧ Below w.heap.size w wr) (fun vb _ _ => 256 - (intOf vb).toNat)
  case atStart => exact ⟨0, rfl, by omega, OwnI.nil _ _, Below.refl _ _⟩
  case round =>
    obtain ⟨b, rfl, hb, hO, hB⟩ := hrel
    have HO := Lib.hid hO
    have HB := Lib.hid hB
    clear hO hB
    obtain ⟨wa, rfl⟩ : ∃ wa : World, wa = wr := ⟨_, rfl⟩
    by_cases hb2 : b < 256
    · have hbi : (b : Int) < 256 := by omega
      go_wp2_with fail
      go_loopw [11, 3] (fun vi vo wr => ∃ i : Nat, vi = .int .i64 (i : Int) ∧ i ≤ s.size ∧ OwnI wr w.heap.size vo (toI (UnM.linksU s.data.toList b ++ blkK s.data.toList b i)) ∧ Below w.heap.size w wr) (fun vi _ _ => s.size - (intOf vi).toNat)
      case atStart => exact ⟨0, rfl, by omega, (by show OwnI _ _ _ (toI (UnM.linksU s.data.toList b ++ [])); rw [List.append_nil]; exact HO.out), HB.out⟩
      case round =>
        clear HO HB
        obtain ⟨i, rfl, hi, hO, hB⟩ := hrel
        have HO := Lib.hid hO
        have HB := Lib.hid hB
        clear hO hB
        by_cases his : i < s.size
        · have hii : (i : Int) < (s.size : Int) := by omega
          have hat := at_get s his
          obtain ⟨c, hc⟩ : ∃ c, UnM.by_ s.data.toList i = c := ⟨_, rfl⟩
          have hc2 : c < 256 := by rw [← hc]; exact UnM.by_lt _ _
          have hcw : IntKind.i64.wrap (c : Int) = (c : Int) := IntWalk.i64_in _ (by omega)
          rw [hc] at hat
          have HNX : Hid (toI (UnM.linksU s.data.toList b ++ blkK s.data.toList b (i + 1)) = toI (UnM.linksU s.data.toList b ++ blkK s.data.toList b i) ++ (if c = b then [(i : Int)] else [])) := Lib.hid (by
            rw [blkK_next, hc]
            by_cases e : c = b
            · rw [if_pos e, if_pos e, ← List.append_assoc, toI_snoc]
            · rw [if_neg e, if_neg e, List.append_nil, List.append_nil])
          have HLEN : Hid ((toI (UnM.linksU s.data.toList b ++ blkK s.data.toList b i)).length + 1 ≤ 17592186044416) := Lib.hid (by
            rw [toI_length, List.length_append, UnM.linksU_len]
            have h1 := UnM.fst_le s.data.toList b
            have h2 := blkK_len s.data.toList b i
            have h3 := HL.out
            omega)
          obtain ⟨ls, hls⟩ : ∃ ls, toI (UnM.linksU s.data.toList b ++ blkK s.data.toList b i) = ls := ⟨_, rfl⟩
          rw [hls] at HO HNX HLEN
          have hbw : w.heap.size ≤ wr.heap.size := HB.out.size
          clear hc hls
          by_cases hcb : c = b
          · have hE : ((c : Int) == (b : Int)) = true := by rw [beq_iff_eq]; omega
            rw [if_pos hcb] at HNX
            clear hcb
            obtain ⟨oa, oc, rfl⟩ := HO.out.slice
            obtain ⟨ln, hln⟩ : ∃ ln, ls.length = ln := ⟨_, rfl⟩
            rw [hln] at HO ⊢
            clear hln
            go_wp2_with (at_builtin; go_loud (refine push_int wr rfl _ _ rfl w.heap.size (.slice oa ln oc) ls (i : Int) HO.out rfl rfl HLEN.out hbw ?_))
            intro v' w' hO' hB'
            have HO2 := Lib.hid (show OwnI w' w.heap.size v' (toI (UnM.linksU s.data.toList b ++ blkK s.data.toList b (i + 1))) by rw [HNX.out]; exact hO')
            have HB2 := Lib.hid (HB.out.trans hB')
            clear hO' hB'
            go_wp2_with fail
            go_roundw
            case rel => exact ⟨i + 1, by go_num, by omega, HO2.out, HB2.out⟩
            case measure => simp [intOf]; omega
          · have hE : ((c : Int) == (b : Int)) = false := by rw [beq_eq_false_iff_ne]; omega
            rw [if_neg hcb, List.append_nil] at HNX
            clear hcb
            have HO2 := Lib.hid HO.out
            rw [← HNX.out] at HO2
            go_wp2_with fail
            go_roundw
            case rel => exact ⟨i + 1, by go_num, by omega, HO2.out, HB.out⟩
            case measure => simp [intOf]; omega
        · have hii : ¬ (i : Int) < (s.size : Int) := by omega
          have hie : i = s.size := by omega
          have HO2 := HO.out
          rw [hie, ← HL.out, blkK_all, ← UnM.linksU_next] at HO2
          have HO2 := Lib.hid HO2
          clear hie
          go_wp2_with fail
          go_roundw
          case rel => exact ⟨b + 1, by go_num, by omega, HO2.out, HB.out⟩
          case measure => simp [intOf]; omega
    · have hbi : ¬ (b : Int) < 256 := by omega
      have hbe : b = 256 := by omega
      subst hbe
      go_wp2_with fail
      go_ret
      exact ⟨_, rfl, HO.out, HB.out⟩
theorem one_extract (s : ByteArray) {p : Nat} (hp : p < s.size) : s.extract p (p + 1) = ⟨#[s.data.toList.getD p 0]⟩ := by
  apply ByteArray.ext
  rw [ByteArray.data_extract]
  apply Array.ext'
  rw [Array.toList_extract]
  have hl : p < s.data.toList.length := by simpa using hp
  rw [List.extract_eq_take_drop, show p + 1 - p = 1 by omega, List.drop_eq_getElem_cons hl, List.getD_eq_getElem?_getD, List.getElem?_eq_getElem hl]
  rfl
set_option maxRecDepth 100000 in
set_option maxHeartbeats 8000000 in
theorem rof18_any (s : ByteArray) (o : Nat) (w : World) (hs : s.size ≤ 100000) (ho : o < s.size) : Calls Try.prog 14 #[.string s, .int .i64 (o : Int)] w fun e w' => e = .returned (.string (unText s o)) ∧ Below w.heap.size w w' := by
  have HR := Lib.hid (rlinks_any s w hs)
  have hl := un_len s
  have HPL : Hid (∀ j, UnM.plc (UnM.links s.data.toList) o j < s.size) := Lib.hid (fun j => by rw [← hl]; exact UnM.plc_lt (by rw [hl]; exact ho) j)
  have HKL := Lib.hid (unlinks_nat s)
  clear hl ho
  go_enter Try.func14, Try.ntmps14
  go_wp2_with fail
  refine HR.out.mono ?_
  rintro e w1 ⟨v, rfl, hO, hB⟩
  have HI := Lib.hid hO.ints
  obtain ⟨a, cap, rfl⟩ := hO.slice
  have HB := Lib.hid hB
  rw [toI_length, HKL.out] at HI ⊢
  clear hO hB
  obtain ⟨wa, rfl⟩ : ∃ wa : World, wa = w1 := ⟨_, rfl⟩
  go_wp2_with fail
  go_loopw [13, 6, 7] (fun vj vo vp wr => ∃ j : Nat, vj = .int .i64 (j : Int) ∧ j ≤ s.size ∧ vo = .string ⟨(BwtM.follow s.data.toList (UnM.links s.data.toList) j o).toArray⟩ ∧ vp = .int .i64 ((UnM.plc (UnM.links s.data.toList) o j : Nat) : Int) ∧ ∃ m, wr = wa.drewN m) (fun vj _ _ _ => s.size - (intOf vj).toNat)
  case atStart => exact ⟨0, rfl, by omega, rfl, rfl, 0, rfl⟩
  case round =>
    obtain ⟨j, rfl, hj, rfl, rfl, m, rfl⟩ := hrel
    have HLN := Lib.hid (UnM.follow_len s.data.toList (UnM.links s.data.toList) j o)
    have HNX := Lib.hid (UnM.follow_next s.data.toList (UnM.links s.data.toList) j o)
    have hp1 := HPL.out j
    have hp2 := HPL.out (j + 1)
    have HP2 : Hid ((UnM.links s.data.toList).getD (UnM.plc (UnM.links s.data.toList) o j) 0 = UnM.plc (UnM.links s.data.toList) o (j + 1)) := Lib.hid rfl
    obtain ⟨p1, hpe1⟩ : ∃ p1, UnM.plc (UnM.links s.data.toList) o j = p1 := ⟨_, rfl⟩
    obtain ⟨p2, hpe2⟩ : ∃ p2, UnM.plc (UnM.links s.data.toList) o (j + 1) = p2 := ⟨_, rfl⟩
    rw [hpe1] at hp1 HP2 ⊢
    rw [hpe2] at hp2 HP2 HNX
    have HPE := Lib.hid hpe2
    obtain ⟨T, hT⟩ : ∃ T, BwtM.follow s.data.toList (UnM.links s.data.toList) j o = T := ⟨_, rfl⟩
    rw [hT] at HLN HNX ⊢
    clear hpe1 hpe2
    by_cases hjs : j < s.size
    · have hji : (j : Int) < (s.size : Int) := by omega
      obtain ⟨b, off, cp, hv, hc⟩ := (HI.out.below (below_drewN wa m)).cell (k := p1) (by rw [toI_length, HKL.out]; exact hp1)
      rw [toI_getD, HP2.out] at hc
      simp only [Value.slice.injEq] at hv
      obtain ⟨rfl, hxx, rfl⟩ := hv
      clear hxx hT
      have hpi : (p1 : Int) < (s.size : Int) := by omega
      have hp2i : (p2 : Int) < (s.size : Int) := by omega
      obtain ⟨q, hq⟩ : ∃ q, p2 + 1 = q := ⟨_, rfl⟩
      have hqi : (p2 : Int) + 1 = (q : Int) := by omega
      have hqw : IntKind.i64.wrap (q : Int) = (q : Int) := IntWalk.i64_in _ (by omega)
      have hq1 : p2 ≤ q := by omega
      have hq2 : q ≤ s.size := by omega
      have hq3 : (q : Int) ≤ (s.size : Int) := by omega
      have hq4 : (p2 : Int) ≤ (q : Int) := by omega
      obtain ⟨y, hy⟩ : ∃ y : UInt8, s.data.toList.getD p2 0 = y := ⟨_, rfl⟩
      have hex := one_extract s hp2
      rw [hq, hy] at hex
      rw [hy] at HNX
      have hsz : (⟨T.toArray⟩ : ByteArray).size + (⟨#[y]⟩ : ByteArray).size ≤ 2199023255552 := by
        rw [text_size, HLN.out]; show _ + 1 ≤ _; omega
      clear hq hy
      go_wp2_with fail
      go_roundw
      case rel => exact ⟨j + 1, by go_num, by omega, by rw [HNX.out, ← text_append], by rw [HPE.out], _, rfl⟩
      case measure => simp [intOf]; omega
    · have hji : ¬ (j : Int) < (s.size : Int) := by omega
      have hje : j = s.size := by omega
      have HT : Hid (unText s o = ⟨T.toArray⟩) := Lib.hid (by unfold unText; rw [← hje, hT])
      clear hje hT
      go_wp2_with fail
      go_ret
      exact ⟨by rw [HT.out]; rfl, HB.out.trans (unBelow_drewN _ wa m)⟩
end Go.Proofs.Ytglpbianmbjoeaa
namespace Go.Proofs.Ytglpbianmbjoeaa
namespace BwtM
open Go.RowKit
set_option linter.unusedVariables false

/-! ### Bytes going round -/
/-- The byte at a place, going round. -/
def bt (T : List UInt8) (i : Nat) : Nat := (T.getD (i % T.length) 0).toNat
theorem bt_mod (T : List UInt8) (i : Nat) : bt T (i % T.length) = bt T i := by unfold bt; rw [Nat.mod_mod]
theorem bt_in (T : List UInt8) {i : Nat} (h : i < T.length) : bt T i = (T.getD i 0).toNat := by unfold bt; rw [Nat.mod_eq_of_lt h]
theorem bt_on (T : List UInt8) {i : Nat} (h : T.length ≤ i) (h2 : i < 2 * T.length) : bt T i = (T.getD (i - T.length) 0).toNat := by
  unfold bt; rw [Nat.mod_eq_sub_mod h, Nat.mod_eq_of_lt (by omega)]
theorem bt_turn (T : List UInt8) (i : Nat) : bt T (i + T.length) = bt T i := by unfold bt; rw [Nat.add_mod_right]
theorem bt_add (T : List UInt8) (i t : Nat) : bt T (i % T.length + t) = bt T (i + t) := by unfold bt; rw [Nat.mod_add_mod]
theorem rot_getD (T : List UInt8) {i j : Nat} (hi : i ≤ T.length) (hj : j < T.length) : ((rot T i).getD j 0).toNat = bt T (i + j) := by
  unfold rot
  by_cases h : i + j < T.length
  · rw [bt_in T h, List.getD_eq_getElem?_getD, List.getElem?_append_left (by rw [List.length_drop]; omega), List.getElem?_drop, List.getD_eq_getElem?_getD]
  · rw [bt_on T (by omega) (by omega), List.getD_eq_getElem?_getD, List.getElem?_append_right (by rw [List.length_drop]; omega), List.length_drop, List.getElem?_take_of_lt (by omega), List.getD_eq_getElem?_getD]
    congr 3
    omega

/-! ### By the first bytes -/
def eqH (T : List UInt8) (H i k : Nat) : Prop := ∀ t, t < H → bt T (i + t) = bt T (k + t)
def ltH (T : List UInt8) (H i k : Nat) : Prop := ∃ t, t < H ∧ eqH T t i k ∧ bt T (i + t) < bt T (k + t)
theorem eqH_refl (T : List UInt8) (H i : Nat) : eqH T H i i := fun _ _ => rfl
theorem eqH.symm {T : List UInt8} {H i k : Nat} (h : eqH T H i k) : eqH T H k i := fun t ht => (h t ht).symm
theorem eqH.trans {T : List UInt8} {H i k m : Nat} (h : eqH T H i k) (g : eqH T H k m) : eqH T H i m := fun t ht => (h t ht).trans (g t ht)
theorem eqH.mono {T : List UInt8} {H G i k : Nat} (h : eqH T H i k) (hg : G ≤ H) : eqH T G i k := fun t ht => h t (by omega)
theorem eqH.more {T : List UInt8} {H i k : Nat} (h : eqH T H i k) (e : bt T (i + H) = bt T (k + H)) : eqH T (H + 1) i k := fun t ht => by
  by_cases h1 : t < H
  · exact h t h1
  · obtain rfl : t = H := by omega
    exact e
theorem ltH.mono {T : List UInt8} {H G i k : Nat} (h : ltH T H i k) (hg : H ≤ G) : ltH T G i k := by
  obtain ⟨t, h1, h2⟩ := h
  exact ⟨t, by omega, h2⟩
theorem ltH.noteq {T : List UInt8} {H i k : Nat} (h : ltH T H i k) : ¬ eqH T H i k := fun e => by
  obtain ⟨t, h1, h2, h3⟩ := h
  have := e t h1
  omega
theorem ltH.asym {T : List UInt8} {H i k : Nat} (h : ltH T H i k) : ¬ ltH T H k i := fun g => by
  obtain ⟨t, h1, h2, h3⟩ := h
  obtain ⟨u, g1, g2, g3⟩ := g
  rcases Nat.lt_trichotomy t u with c | rfl | c
  · have := g2 t c; omega
  · omega
  · have := h2 u c; omega
theorem ltH_total (T : List UInt8) (i k : Nat) : ∀ H, ltH T H i k ∨ eqH T H i k ∨ ltH T H k i
  | 0 => Or.inr (Or.inl fun t ht => by omega)
  | H + 1 => by
    rcases ltH_total T i k H with h | h | h
    · exact Or.inl (h.mono (by omega))
    · rcases Nat.lt_trichotomy (bt T (i + H)) (bt T (k + H)) with c | c | c
      · exact Or.inl ⟨H, by omega, h, c⟩
      · exact Or.inr (Or.inl (h.more c))
      · exact Or.inr (Or.inr ⟨H, by omega, h.symm, c⟩)
    · exact Or.inr (Or.inr (h.mono (by omega)))
theorem ltH.trans {T : List UInt8} {H i k m : Nat} (h : ltH T H i k) (g : ltH T H k m) : ltH T H i m := by
  obtain ⟨t, h1, h2, h3⟩ := h
  obtain ⟨u, g1, g2, g3⟩ := g
  rcases Nat.lt_trichotomy t u with c | rfl | c
  · exact ⟨t, h1, h2.trans (g2.mono (by omega)), by rw [← g2 t c]; exact h3⟩
  · exact ⟨t, h1, h2.trans g2, by omega⟩
  · exact ⟨u, g1, (h2.mono (by omega)).trans g2, by rw [h2 u c]; exact g3⟩
theorem ltH.eq_left {T : List UInt8} {H i k m : Nat} (h : eqH T H i k) (g : ltH T H k m) : ltH T H i m := by
  obtain ⟨u, g1, g2, g3⟩ := g
  exact ⟨u, g1, (h.mono (by omega)).trans g2, by rw [h u g1]; exact g3⟩
theorem ltH.eq_right {T : List UInt8} {H i k m : Nat} (h : ltH T H i k) (g : eqH T H k m) : ltH T H i m := by
  obtain ⟨u, g1, g2, g3⟩ := h
  exact ⟨u, g1, g2.trans (g.mono (by omega)), by rw [← g u g1]; exact g3⟩
/-- What goes round is told by its first bytes up to the text's length. -/
theorem eqH_all {T : List UInt8} {i k : Nat} (h : eqH T T.length i k) (t : Nat) : bt T (i + t) = bt T (k + t) := by
  by_cases hn : 0 < T.length
  · have e : ∀ x, bt T (x + t) = bt T (x + t % T.length) := fun x => by unfold bt; rw [Nat.add_mod_mod]
    rw [e i, e k]
    exact h _ (Nat.mod_lt _ hn)
  · unfold bt
    have : T = [] := List.eq_nil_of_length_eq_zero (by omega)
    subst this
    rfl
theorem eqH_up {T : List UInt8} {H G i k : Nat} (h : eqH T H i k) (hn : T.length ≤ H) : eqH T G i k := fun t _ => eqH_all (h.mono hn) t
theorem ltH_down {T : List UInt8} {H i k : Nat} (h : ltH T H i k) : ltH T T.length i k := by
  rcases ltH_total T i k T.length with g | g | g
  · exact g
  · exact absurd (eqH_up g (Nat.le_refl _)) h.noteq
  · exfalso
    obtain ⟨t, h1, h2, h3⟩ := h
    obtain ⟨u, g1, g2, g3⟩ := g
    rcases Nat.lt_trichotomy t u with c | rfl | c
    · have := g2 t c; omega
    · omega
    · have := h2 u c; omega
/-- The first bytes, and then those behind. -/
theorem eqH_add {T : List UInt8} {H G i k : Nat} : eqH T (H + G) i k ↔ eqH T H i k ∧ eqH T G (i + H) (k + H) := by
  constructor
  · intro h
    exact ⟨h.mono (by omega), fun t ht => by have := h (H + t) (by omega); rwa [Nat.add_assoc, Nat.add_assoc]⟩
  · rintro ⟨h, g⟩ t ht
    by_cases c : t < H
    · exact h t c
    · have := g (t - H) (by omega)
      rwa [Nat.add_assoc, Nat.add_assoc, show H + (t - H) = t by omega] at this
theorem ltH_add {T : List UInt8} {H G i k : Nat} : ltH T (H + G) i k ↔ ltH T H i k ∨ (eqH T H i k ∧ ltH T G (i + H) (k + H)) := by
  constructor
  · rintro ⟨t, h1, h2, h3⟩
    by_cases c : t < H
    · exact Or.inl ⟨t, c, h2, h3⟩
    · refine Or.inr ⟨h2.mono (by omega), t - H, by omega, fun u hu => ?_, ?_⟩
      · have := h2 (H + u) (by omega); rwa [Nat.add_assoc, Nat.add_assoc]
      · rwa [Nat.add_assoc, Nat.add_assoc, show H + (t - H) = t by omega]
  · rintro (h | ⟨h, t, g1, g2, g3⟩)
    · exact h.mono (by omega)
    · refine ⟨H + t, by omega, eqH_add.2 ⟨h, g2⟩, ?_⟩
      rwa [Nat.add_assoc, Nat.add_assoc] at g3
theorem eqH_mod (T : List UInt8) (H i k : Nat) : eqH T H (i % T.length) (k % T.length) ↔ eqH T H i k := by
  unfold eqH
  simp only [bt_add]
theorem ltH_mod (T : List UInt8) (H i k : Nat) : ltH T H (i % T.length) (k % T.length) ↔ ltH T H i k := by
  unfold ltH
  simp only [bt_add, eqH_mod]
theorem lle_get : ∀ (r s : List UInt8), r.length = s.length → ((∀ t, t < r.length → (r.getD t 0).toNat = (s.getD t 0).toNat) ↔ r = s) ∧ ((∃ t, t < r.length ∧ (∀ u, u < t → (r.getD u 0).toNat = (s.getD u 0).toNat) ∧ (r.getD t 0).toNat < (s.getD t 0).toNat) ↔ lle r s ∧ r ≠ s)
  | [], [], _ => ⟨⟨fun _ => rfl, fun _ t ht => by simp at ht⟩, ⟨fun ⟨t, ht, _⟩ => by simp at ht, fun h => absurd rfl h.2⟩⟩
  | [], _ :: _, h => by simp at h
  | _ :: _, [], h => by simp at h
  | a :: r, b :: s, h => by
    obtain ⟨i1, i2⟩ := lle_get r s (by simpa using h)
    have hab : a.toNat = b.toNat ↔ a = b := UInt8.toNat_inj
    constructor
    · constructor
      · intro g
        have g0 := g 0 (by simp)
        rw [(hab.1 (by simpa using g0)), i1.1 (fun t ht => by simpa using g (t + 1) (by simpa using ht))]
      · rintro ⟨rfl, rfl⟩ t _
        rfl
    · constructor
      · rintro ⟨t, ht, g1, g2⟩
        cases t with
        | zero =>
          simp at g2
          exact ⟨Or.inl g2, fun e => by injection e with e1 _; subst e1; omega⟩
        | succ t =>
          have g0 := hab.1 (by simpa using g1 0 (by omega))
          obtain ⟨j1, j2⟩ := i2.1 ⟨t, by simpa using ht, fun u hu => by simpa using g1 (u + 1) (by omega), by simpa using g2⟩
          exact ⟨Or.inr ⟨g0, j1⟩, fun e => by injection e with _ e2; exact j2 e2⟩
      · rintro ⟨g | ⟨rfl, g⟩, hne⟩
        · exact ⟨0, by simp, fun u hu => by omega, by simpa using g⟩
        · obtain ⟨t, ht, g1, g2⟩ := i2.2 ⟨g, fun e => hne (by rw [e])⟩
          refine ⟨t + 1, by simpa using ht, fun u hu => ?_, by simpa using g2⟩
          cases u with
          | zero => simp
          | succ u => simpa using g1 u (by omega)
theorem eqH_rot {T : List UInt8} {i k : Nat} (hi : i ≤ T.length) (hk : k ≤ T.length) : eqH T T.length i k ↔ rot T i = rot T k := by
  have := (lle_get (rot T i) (rot T k) (by rw [rot_len T i hi, rot_len T k hk])).1
  rw [← this, rot_len T i hi]
  unfold eqH
  constructor
  · intro h t ht; rw [rot_getD T hi ht, rot_getD T hk ht]; exact h t ht
  · intro h t ht; have := h t ht; rwa [rot_getD T hi ht, rot_getD T hk ht] at this
theorem ltH_rot {T : List UInt8} {i k : Nat} (hi : i ≤ T.length) (hk : k ≤ T.length) : ltH T T.length i k ↔ lle (rot T i) (rot T k) ∧ rot T i ≠ rot T k := by
  have := (lle_get (rot T i) (rot T k) (by rw [rot_len T i hi, rot_len T k hk])).2
  rw [← this, rot_len T i hi]
  unfold ltH eqH
  constructor
  · rintro ⟨t, h1, h2, h3⟩
    exact ⟨t, h1, fun u hu => by rw [rot_getD T hi (by omega), rot_getD T hk (by omega)]; exact h2 u hu, by rw [rot_getD T hi h1, rot_getD T hk h1]; exact h3⟩
  · rintro ⟨t, h1, h2, h3⟩
    exact ⟨t, h1, fun u hu => by have := h2 u hu; rwa [rot_getD T hi (by omega), rot_getD T hk (by omega)] at this, by rwa [rot_getD T hi h1, rot_getD T hk h1] at h3⟩
theorem ahead_iff {T : List UInt8} {i k : Nat} (hi : i ≤ T.length) (hk : k ≤ T.length) : Ahead T i k ↔ ltH T T.length i k ∨ (eqH T T.length i k ∧ i < k) := by
  unfold Ahead
  rw [ltH_rot hi hk, eqH_rot hi hk]
/-- Which of two rotations is less, as a number. -/
def IsCmp (T : List UInt8) (i k : Nat) (c : Int) : Prop := (c = -1 ∧ ltH T T.length i k) ∨ (c = 0 ∧ eqH T T.length i k) ∨ (c = 1 ∧ ltH T T.length k i)

/-! ### The first rotation -/
theorem least_is (T : List UInt8) : ∀ k, 0 < k → ∃ m, m < k ∧ ∀ j, j < k → j ≠ m → Ahead T m j
  | 0, h => by omega
  | 1, _ => ⟨0, by omega, fun j hj hne => by omega⟩
  | k + 2, _ => by
    obtain ⟨m, hm, h⟩ := least_is T (k + 1) (by omega)
    rcases ahead_total (T := T) (i := m) (k := k + 1) (by omega) with a | a
    · refine ⟨m, by omega, fun j hj hne => ?_⟩
      by_cases e : j = k + 1
      · subst e; exact a
      · exact h j (by omega) hne
    · refine ⟨k + 1, by omega, fun j hj hne => ?_⟩
      by_cases e : j = m
      · subst e; exact a
      · exact ahead_trans a (h j (by omega) e)
/-- Two places that vie: all ahead of k but a are beaten, and they begin with so many like bytes. -/
def Vie (T : List UInt8) (a k on : Nat) : Prop := a < k ∧ a < T.length ∧ (∀ j, j < k → j < T.length → j ≠ a → ∃ m, m < T.length ∧ Ahead T m j) ∧ eqH T on a k
theorem Vie.start (T : List UInt8) (h : 0 < T.length) : Vie T 0 1 0 := ⟨by omega, h, fun j h1 h2 h3 => by omega, fun t ht => by omega⟩
theorem Vie.beat {T : List UInt8} {a k on t : Nat} (h : eqH T on a k) (ho : on < T.length) (hlt : bt T (a + on) < bt T (k + on)) (ht : t ≤ on) : ltH T T.length (a + t) (k + t) :=
  ⟨on - t, by omega, fun u hu => by have := h (t + u) (by omega); rwa [Nat.add_assoc, Nat.add_assoc], by rwa [Nat.add_assoc, Nat.add_assoc, show t + (on - t) = on by omega]⟩
theorem Vie.same {T : List UInt8} {a k on : Nat} (h : Vie T a k on) (e : bt T (a + on) = bt T (k + on)) : Vie T a k (on + 1) := ⟨h.1, h.2.1, h.2.2.1, h.2.2.2.more e⟩
theorem Vie.less {T : List UInt8} {a k on : Nat} (h : Vie T a k on) (ho : on < T.length) (hk : k < T.length) (hlt : bt T (a + on) < bt T (k + on)) : Vie T a (k + on + 1) 0 := by
  obtain ⟨h1, h2, h3, h4⟩ := h
  refine ⟨by omega, h2, fun j hj hn hne => ?_, fun t ht => by omega⟩
  by_cases c : j < k
  · exact h3 j c hn hne
  · have hb := Vie.beat h4 ho hlt (t := j - k) (by omega)
    rw [show k + (j - k) = j by omega] at hb
    exact ⟨a + (j - k), by omega, (ahead_iff (by omega) (by omega)).2 (Or.inl hb)⟩
theorem Vie.greater {T : List UInt8} {a k on : Nat} (h : Vie T a k on) (ho : on < T.length) (hk : k < T.length) (hlt : bt T (k + on) < bt T (a + on)) : Vie T (max (a + on + 1) k) (max (a + on + 1) k + 1) 0 := by
  obtain ⟨h1, h2, h3, h4⟩ := h
  have hn : 0 < T.length := by omega
  have all : ∀ j, j < max (a + on + 1) k → j < T.length → ∃ m, m < T.length ∧ Ahead T m j := fun j hj hjn => by
    by_cases c : j < k ∧ j ≠ a
    · exact h3 j c.1 hjn c.2
    · have hja : a ≤ j ∧ j - a ≤ on := by omega
      have hb := Vie.beat h4.symm ho hlt (t := j - a) hja.2
      rw [show a + (j - a) = j by omega] at hb
      have hm := Nat.mod_lt (k + (j - a)) hn
      refine ⟨(k + (j - a)) % T.length, hm, (ahead_iff (by omega) (by omega)).2 (Or.inl ?_)⟩
      have := (ltH_mod T T.length (k + (j - a)) j).2 hb
      rwa [Nat.mod_eq_of_lt hjn] at this
  refine ⟨by omega, ?_, fun j hj hjn hne => all j (by omega) hjn, fun t ht => by omega⟩
  by_cases c : max (a + on + 1) k < T.length
  · exact c
  · exfalso
    obtain ⟨m, hm, hl⟩ := least_is T T.length hn
    obtain ⟨m2, hm2, hb⟩ := all m (by omega) hm
    by_cases e : m2 = m
    · subst e; exact ahead_asym hb hb
    · exact ahead_asym hb (hl m2 hm2 e)
/-- a is the place of the rotation that is ahead of all others. -/
def IsLeast (T : List UInt8) (a : Nat) : Prop := a < T.length ∧ ∀ j, j < T.length → ¬ Ahead T j a
theorem IsLeast.one {T : List UInt8} {a b : Nat} (h : IsLeast T a) (g : IsLeast T b) : a = b := by
  by_cases e : a = b
  · exact e
  · rcases ahead_total (T := T) e with c | c
    · exact absurd c (g.2 a h.1)
    · exact absurd c (h.2 b g.1)
theorem Vie.done {T : List UInt8} {a k on : Nat} (h : Vie T a k on) (hd : T.length ≤ k ∨ T.length ≤ on) : IsLeast T a := by
  obtain ⟨h1, h2, h3, h4⟩ := h
  obtain ⟨m, hm, hl⟩ := least_is T T.length (by omega)
  have hlm : IsLeast T m := ⟨hm, fun j hj hb => by
    by_cases e : j = m
    · subst e; exact ahead_asym hb hb
    · exact ahead_asym hb (hl j hj e)⟩
  have e : m = a := by
    by_cases e : m = a
    · exact e
    · exfalso
      by_cases c : m < k
      · obtain ⟨m2, hm2, hb⟩ := h3 m c hm e
        exact hlm.2 m2 hm2 hb
      · have hon : T.length ≤ on := by omega
        have hb : Ahead T (m - (k - a)) m := by
          refine (ahead_iff (by omega) (by omega)).2 (Or.inr ⟨?_, by omega⟩)
          intro t ht
          have := eqH_all (h4.mono hon) (m - k + t)
          rw [show m - (k - a) + t = a + (m - k + t) by omega, this]
          congr 1
          omega
        exact hlm.2 _ (by omega) hb
  subst e
  exact hlm
end BwtM
end Go.Proofs.Ytglpbianmbjoeaa
namespace Go.Proofs.Ytglpbianmbjoeaa
namespace BwtM
open Go.RowKit
set_option linter.unusedVariables false

/-- f tells the place at a rank, R the rank of a place. -/
structure Ranks (n : Nat) (f R : Nat → Nat) : Prop where
  lt : ∀ j, j < n → f j < n
  left : ∀ j, j < n → R (f j) = j
  rlt : ∀ i, i < n → R i < n
  right : ∀ i, i < n → f (R i) = i
/-- The places stand in rows of such as are the same. -/
def Blk (p c : Nat) (f : Nat → Nat) : Prop := ∀ r m, r < p → m < c → f (r * c + m) = f (r * c) + m * p ∧ f (r * c) < p
theorem in_rows {p c r m : Nat} (hr : r < p) (hm : m < c) : r * c + m < p * c := by
  have h := Nat.mul_le_mul_right c (show r + 1 ≤ p from hr)
  rw [Nat.add_mul, Nat.one_mul] at h
  omega
theorem Blk.res {n p c : Nat} {f R : Nat → Nat} (hb : Blk p c f) (hR : Ranks n f R) (hc : n = p * c) (h0 : 0 < c) {i : Nat} (hi : i < n) : i % p = f (R i / c * c) ∧ i = f (R i / c * c) + R i % c * p := by
  have h1 := hR.rlt i hi
  have hr : R i / c < p := by rw [Nat.div_lt_iff_lt_mul h0, ← hc]; exact h1
  have h2 := hb (R i / c) (R i % c) hr (Nat.mod_lt _ h0)
  have e : R i / c * c + R i % c = R i := by rw [Nat.mul_comm]; exact Nat.div_add_mod (R i) c
  rw [e, hR.right i hi] at h2
  refine ⟨?_, h2.1⟩
  have e3 := h2.1
  generalize f (R i / c * c) = q at *
  rw [e3, Nat.add_mul_mod_self_right, Nat.mod_eq_of_lt h2.2]
theorem Blk.row {n p c : Nat} {f R : Nat → Nat} (hb : Blk p c f) (hR : Ranks n f R) (hc : n = p * c) (h0 : 0 < c) {i k : Nat} (hi : i < n) (hk : k < n) : R i / c = R k / c ↔ i % p = k % p := by
  have h1 := hb.res hR hc h0 hi
  have h2 := hb.res hR hc h0 hk
  constructor
  · intro e; rw [h1.1, h2.1, e]
  · intro e
    rw [h1.1, h2.1] at e
    have hlt : ∀ j, j < n → R j / c * c < n := fun j hj => by
      have := Nat.div_mul_le_self (R j) c
      have := hR.rlt j hj
      omega
    have h3 := congrArg R e
    rw [hR.left _ (hlt i hi), hR.left _ (hlt k hk)] at h3
    exact Nat.mul_right_cancel h0 h3
theorem bt_period {T : List UInt8} {p : Nat} (hn : 0 < T.length) (hp : IsPeriod T p) (i : Nat) : bt T (i + p) = bt T i := by
  have hpl := Nat.le_of_dvd hn hp.2.1
  have hm := Nat.mod_lt i hn
  have h := rot_getD T (i := p) (j := i % T.length) hpl hm
  rw [hp.2.2.1] at h
  rw [← bt_add T i p, Nat.add_comm, ← h, ← bt_in T hm, bt_mod]
theorem bt_same {T : List UInt8} {p : Nat} (hn : 0 < T.length) (hp : IsPeriod T p) {i k : Nat} (h : i % p = k % p) : bt T i = bt T k := by
  have h1 : ∀ m i, bt T (i + m * p) = bt T i := fun m => by
    induction m with
    | zero => intro i; simp
    | succ m ih => intro i; rw [Nat.add_mul, Nat.one_mul, ← Nat.add_assoc, bt_period hn hp, ih]
  have h2 : ∀ i, bt T i = bt T (i % p) := fun i => by
    conv => lhs; rw [← Nat.mod_add_div i p, Nat.mul_comm]
    exact h1 _ _
  rw [h2 i, h2 k, h]
theorem eqH_same {T : List UInt8} {p : Nat} (hn : 0 < T.length) (hp : IsPeriod T p) {i k : Nat} (h : i % p = k % p) (H : Nat) : eqH T H i k := fun t _ => bt_same hn hp (by
  rw [Nat.add_mod, h, ← Nat.add_mod])
theorem same_iff {T : List UInt8} {p : Nat} (hp : IsPeriod T p) {i k : Nat} (hi : i < T.length) (hk : k < T.length) : eqH T T.length i k ↔ i % p = k % p := by
  rw [eqH_rot (by omega) (by omega), alike hp hi hk, ← Int.emod_eq_emod_iff_emod_sub_eq_zero, ← Int.natCast_emod, ← Int.natCast_emod]
  exact Int.ofNat_inj
/-- k may stand just behind i. -/
def Follow (T : List UInt8) (R : Nat → Nat) (p c i k : Nat) : Prop :=
  (R i / c = R k / c → k = i + p) ∧ (R i / c ≠ R k / c → bt T i ≠ bt T k → bt T i < bt T k) ∧ (R i / c ≠ R k / c → bt T i = bt T k → R ((i + 1) % T.length) / c < R ((k + 1) % T.length) / c)
theorem blk_follow {T : List UInt8} {p c : Nat} {f R : Nat → Nat} (hc : T.length = p * c) (h0 : 0 < c) (hR : Ranks T.length f R) (h : ∀ j, j + 1 < T.length → Follow T R p c (f j) (f (j + 1))) : Blk p c f := by
  intro r
  have step : ∀ m, r < p → m < c → f (r * c + m) = f (r * c) + m * p := fun m => by
    induction m with
    | zero => intro _ _; simp
    | succ m ih =>
      intro hr hm
      have h1 := in_rows hr hm
      have h2 := (h (r * c + m) (by rw [hc]; omega)).1
      rw [hR.left _ (by rw [hc]; omega), hR.left _ (by rw [hc]; omega)] at h2
      have hd : ∀ x, x < c → (r * c + x) / c = r := fun x hx => by rw [Nat.mul_comm, Nat.mul_add_div h0, Nat.div_eq_of_lt hx]; rfl
      rw [show r * c + (m + 1) = r * c + m + 1 from rfl, h2 (by rw [hd m (by omega), show r * c + m + 1 = r * c + (m + 1) from rfl, hd (m + 1) hm]), ih hr (by omega), Nat.add_mul, Nat.one_mul, Nat.add_assoc]
  intro m hr hm
  refine ⟨step m hr hm, ?_⟩
  have h1 := step (c - 1) hr (by omega)
  have h2 := hR.lt (r * c + (c - 1)) (by rw [hc]; exact in_rows hr (by omega))
  rw [h1, hc] at h2
  have h3 : p * c = (c - 1) * p + p := by
    conv => lhs; rw [Nat.mul_comm, show c = c - 1 + 1 by omega, Nat.add_mul, Nat.one_mul]
  omega
theorem sorted_follow {T : List UInt8} {p c : Nat} {f R : Nat → Nat} (hp : IsPeriod T p) (hc : T.length = p * c) (h0 : 0 < c) (hR : Ranks T.length f R) (h : ∀ j, j + 1 < T.length → Follow T R p c (f j) (f (j + 1))) :
    ∀ j k, j < k → k < T.length → Ahead T (f j) (f k) := by
  have hb := blk_follow hc h0 hR h
  have bytes : ∀ d j, j + d < T.length → bt T (f j) ≤ bt T (f (j + d)) := fun d => by
    induction d with
    | zero => intro j _; exact Nat.le_refl _
    | succ d ih =>
      intro j hj
      refine Nat.le_trans (ih j (by omega)) ?_
      have hf := h (j + d) (by omega)
      have hn : 0 < T.length := by omega
      by_cases e : R (f (j + d)) / c = R (f (j + d + 1)) / c
      · rw [show j + (d + 1) = j + d + 1 from rfl, hf.1 e, bt_period hn hp]
        exact Nat.le_refl _
      · by_cases g : bt T (f (j + d)) = bt T (f (j + d + 1))
        · exact Nat.le_of_eq g
        · exact Nat.le_of_lt (hf.2.1 e g)
  have rows : ∀ d j, j + d < T.length → bt T (f j) = bt T (f (j + d)) → R ((f j + 1) % T.length) / c ≤ R ((f (j + d) + 1) % T.length) / c := fun d => by
    induction d with
    | zero => intro j _ _; exact Nat.le_refl _
    | succ d ih =>
      intro j hj hbt
      have hn : 0 < T.length := by omega
      have b1 := bytes d j (by omega)
      have b2 := bytes 1 (j + d) (by omega)
      rw [show j + (d + 1) = j + d + 1 from rfl] at hbt ⊢
      refine Nat.le_trans (ih j (by omega) (by omega)) ?_
      have hf := h (j + d) (by omega)
      by_cases e : R (f (j + d)) / c = R (f (j + d + 1)) / c
      · refine Nat.le_of_eq ((hb.row hR hc h0 (Nat.mod_lt _ hn) (Nat.mod_lt _ hn)).2 ?_)
        rw [Nat.mod_mod_of_dvd _ hp.2.1, Nat.mod_mod_of_dvd _ hp.2.1, hf.1 e, show f (j + d) + p + 1 = f (j + d) + 1 + p by omega, Nat.add_mod_right]
      · exact Nat.le_of_lt (hf.2.2 e (by omega))
  have mono : ∀ t j k, j < k → k < T.length → ¬ ltH T t (f k) (f j) := fun t => by
    induction t with
    | zero => rintro j k _ _ ⟨t, ht, _⟩; omega
    | succ t ih =>
      intro j k hjk hk hl
      have hn : 0 < T.length := by omega
      obtain ⟨d, rfl⟩ := Nat.exists_eq_add_of_le (Nat.le_of_lt hjk)
      have hbt := bytes d j hk
      rw [Nat.add_comm, ltH_add] at hl
      rcases hl with ⟨u, h1, _, h3⟩ | ⟨he, hl⟩
      · obtain rfl : u = 0 := by omega
        rw [Nat.add_zero, Nat.add_zero] at h3
        omega
      · have he0 := he 0 (by omega)
        rw [Nat.add_zero, Nat.add_zero] at he0
        have hr := rows d j hk he0.symm
        have h1 := Nat.mod_lt (f j + 1) hn
        have h2 := Nat.mod_lt (f (j + d) + 1) hn
        have hl2 := (ltH_mod T t _ _).2 hl
        by_cases e : R ((f j + 1) % T.length) / c = R ((f (j + d) + 1) % T.length) / c
        · exact hl2.noteq (eqH_same hn hp ((hb.row hR hc h0 h1 h2).1 e).symm t)
        · have hlt : R ((f j + 1) % T.length) < R ((f (j + d) + 1) % T.length) := by
            by_cases g : R ((f j + 1) % T.length) < R ((f (j + d) + 1) % T.length)
            · exact g
            · exact absurd (Nat.le_antisymm hr (Nat.div_le_div_right (Nat.le_of_not_lt g))) e
          have := ih _ _ hlt (hR.rlt _ h2)
          rw [hR.right _ h1, hR.right _ h2] at this
          exact this hl2
  intro j k hjk hk
  have hj : j < T.length := by omega
  refine (ahead_iff (Nat.le_of_lt (hR.lt j hj)) (Nat.le_of_lt (hR.lt k hk))).2 ?_
  rcases ltH_total T (f j) (f k) T.length with c1 | c1 | c1
  · exact Or.inl c1
  · refine Or.inr ⟨c1, ?_⟩
    have hres := (same_iff hp (hR.lt j hj) (hR.lt k hk)).1 c1
    have hrow := (hb.row hR hc h0 (hR.lt j hj) (hR.lt k hk)).2 hres
    have e1 := (hb.res hR hc h0 (hR.lt j hj)).2
    have e2 := (hb.res hR hc h0 (hR.lt k hk)).2
    rw [hR.left j hj] at hrow e1
    rw [hR.left k hk] at hrow e2
    rw [e1, e2, hrow]
    have hm : j % c < k % c := by
      have d1 := Nat.div_add_mod j c
      have d2 := Nat.div_add_mod k c
      rw [hrow] at d1
      omega
    have := Nat.mul_lt_mul_of_pos_right hm hp.1
    omega
  · exact absurd c1 (mono _ j k hjk hk)
theorem ranks_le {n : Nat} {T : List UInt8} {f R : Nat → Nat} (hn : n = T.length) (hR : Ranks n f R) (h : ∀ j k, j < k → k < n → Ahead T (f j) (f k)) {i k : Nat} (hi : i < n) (hk : k < n) (ha : Ahead T i k) : R i < R k := by
  rcases Nat.lt_trichotomy (R i) (R k) with c | c | c
  · exact c
  · have e : i = k := by rw [← hR.right i hi, ← hR.right k hk, c]
    rw [e] at ha
    exact absurd ha (ahead_asym ha)
  · have := h _ _ c (hR.rlt i hi)
    rw [hR.right i hi, hR.right k hk] at this
    exact absurd ha (ahead_asym this)
theorem blk_sorted {T : List UInt8} {p c : Nat} {f R : Nat → Nat} (hn : 0 < T.length) (hp : IsPeriod T p) (hc : T.length = p * c) (h0 : 0 < c) (hR : Ranks T.length f R) (h : ∀ j k, j < k → k < T.length → Ahead T (f j) (f k)) : Blk p c f := by
  have next : ∀ j, j < T.length → f j + p < T.length → j + 1 < T.length ∧ f (j + 1) = f j + p := fun j hj hp2 => by
    have hfj := hR.lt j hj
    have a1 : Ahead T (f j) (f j + p) := (ahead_iff (by omega) (by omega)).2 (Or.inr ⟨eqH_same hn hp (by rw [Nat.add_mod_right]) _, by have := hp.1; omega⟩)
    have hlt := ranks_le rfl hR h hfj hp2 a1
    rw [hR.left j hj] at hlt
    have hm := hR.rlt _ hp2
    refine ⟨by omega, ?_⟩
    by_cases e : R (f j + p) = j + 1
    · rw [← e, hR.right _ hp2]
    · exfalso
      have hx := hR.lt (j + 1) (by omega)
      have a2 := h j (j + 1) (by omega) (by omega)
      have a3 := h (j + 1) (R (f j + p)) (by omega) hm
      rw [hR.right _ hp2] at a3
      have e1 := (ahead_iff (Nat.le_of_lt hfj) (Nat.le_of_lt hx)).1 a2
      have e2 := (ahead_iff (Nat.le_of_lt hx) (Nat.le_of_lt hp2)).1 a3
      have eq0 : eqH T T.length (f j) (f j + p) := eqH_same hn hp (by rw [Nat.add_mod_right]) _
      rcases e1 with e1 | ⟨e1, l1⟩
      · rcases e2 with e2 | ⟨e2, l2⟩
        · exact (e1.trans e2).noteq eq0
        · exact (e1.eq_right e2).noteq eq0
      · rcases e2 with e2 | ⟨e2, l2⟩
        · exact (ltH.eq_left e1 e2).noteq eq0
        · have hres := (same_iff hp hfj hx).1 e1
          obtain ⟨d, hd⟩ := Nat.exists_eq_add_of_le (Nat.le_of_lt l1)
          rw [hd, Nat.add_comm] at hres
          have h5 := hres
          have hdl : d < p := by omega
          have hd0 : 0 < d := by omega
          have : (p : Nat) ∣ d := by
            have := Nat.sub_mod_eq_zero_of_mod_eq (m := d + f j) (n := f j) (k := p) h5.symm
            rw [Nat.add_sub_cancel] at this
            exact Nat.dvd_of_mod_eq_zero this
          exact absurd (Nat.le_of_dvd hd0 this) (by omega)
  have prev : ∀ j, j < T.length → p ≤ f j → ∃ m, j = m + 1 ∧ f j = f m + p := fun j hj hpj => by
    have hfj := hR.lt j hj
    have h1 := next (R (f j - p)) (hR.rlt _ (by omega)) (by rw [hR.right _ (by omega)]; omega)
    refine ⟨R (f j - p), ?_, by rw [hR.right _ (by omega)]; omega⟩
    have h2 := congrArg R h1.2
    rw [hR.left _ h1.1, hR.right _ (by omega), show f j - p + p = f j by omega, hR.left j hj] at h2
    omega
  have lastp : ∀ q m, q < p → m < c → q + m * p < T.length := fun q m hq hm => by
    rw [hc]
    have := in_rows (p := c) (c := p) hm hq
    rw [Nat.mul_comm p c]
    omega
  have fill : ∀ j, j < T.length → f j < p → ∀ m, m < c → j + m < T.length ∧ f (j + m) = f j + m * p := fun j hj hfj m => by
    induction m with
    | zero => intro _; simp; exact hj
    | succ m ih =>
      intro hm
      have h1 := ih (by omega)
      have h2 := lastp (f j) (m + 1) hfj hm
      rw [Nat.add_mul, Nat.one_mul] at h2
      have h3 := next (j + m) h1.1 (by rw [h1.2]; omega)
      refine ⟨h3.1, ?_⟩
      rw [show j + (m + 1) = j + m + 1 from rfl, h3.2, h1.2, Nat.add_mul, Nat.one_mul]
      omega
  have start : ∀ r, r < p → r * c < T.length ∧ f (r * c) < p := fun r => by
    induction r with
    | zero =>
      intro _
      refine ⟨by omega, ?_⟩
      rw [Nat.zero_mul]
      by_cases g : f 0 < p
      · exact g
      · obtain ⟨m, hm, _⟩ := prev 0 hn (by omega)
        omega
    | succ r ih =>
      intro hr
      obtain ⟨h1, h2⟩ := ih (by omega)
      have hin : (r + 1) * c < T.length := by rw [hc]; have := in_rows (p := p) (c := c) hr h0; omega
      refine ⟨hin, ?_⟩
      by_cases g : f ((r + 1) * c) < p
      · exact g
      · exfalso
        obtain ⟨m, hm, hfm⟩ := prev _ hin (by omega)
        have h3 := fill (r * c) h1 h2 (c - 1) (by omega)
        rw [Nat.add_mul, Nat.one_mul] at hm
        have em : m = r * c + (c - 1) := by omega
        have hlt := hR.lt _ hin
        rw [hfm, em, h3.2] at hlt
        have h4 : T.length = (c - 1) * p + p := by
          rw [hc]
          conv => lhs; rw [Nat.mul_comm, show c = c - 1 + 1 by omega, Nat.add_mul, Nat.one_mul]
        omega
  intro r m hr hm
  obtain ⟨h1, h2⟩ := start r hr
  exact ⟨(fill _ h1 h2 m hm).2, h2⟩
theorem follow_sorted {T : List UInt8} {p c : Nat} {f R : Nat → Nat} (hn : 0 < T.length) (hp : IsPeriod T p) (hc : T.length = p * c) (h0 : 0 < c) (hR : Ranks T.length f R) (h : ∀ j k, j < k → k < T.length → Ahead T (f j) (f k)) :
    ∀ j, j + 1 < T.length → Follow T R p c (f j) (f (j + 1)) := by
  have hb := blk_sorted hn hp hc h0 hR h
  intro j hj
  have h1 := hR.lt j (by omega)
  have h2 := hR.lt (j + 1) hj
  have ha := h j (j + 1) (by omega) hj
  have hrow := hb.row hR hc h0 h1 h2
  have hlt : ¬ R (f j) / c = R (f (j + 1)) / c → ltH T T.length (f j) (f (j + 1)) := fun e => by
    rcases (ahead_iff (Nat.le_of_lt h1) (Nat.le_of_lt h2)).1 ha with g | g
    · exact g
    · exact absurd (hrow.2 ((same_iff hp h1 h2).1 g.1)) e
  refine ⟨fun e => ?_, fun e g => ?_, fun e g => ?_⟩
  · have e1 := (hb.res hR hc h0 h1).2
    have e2 := (hb.res hR hc h0 h2).2
    rw [hR.left j (by omega)] at e e1
    rw [hR.left (j + 1) hj] at e e2
    have d1 := Nat.div_add_mod j c
    have d2 := Nat.div_add_mod (j + 1) c
    rw [← e] at d2 e2
    have hm : (j + 1) % c = j % c + 1 := by omega
    rw [hm, Nat.add_mul, Nat.one_mul] at e2
    omega
  · obtain ⟨t, t1, t2, t3⟩ := hlt e
    cases t with
    | zero => rwa [Nat.add_zero, Nat.add_zero] at t3
    | succ t => exact absurd (by have := t2 0 (by omega); rwa [Nat.add_zero, Nat.add_zero] at this) g
  · have hl := hlt e
    have hl1 : ltH T T.length (f j + 1) (f (j + 1) + 1) := by
      rw [show T.length = 1 + (T.length - 1) by omega, ltH_add] at hl
      rcases hl with ⟨u, u1, _, u3⟩ | ⟨_, hl⟩
      · obtain rfl : u = 0 := by omega
        rw [Nat.add_zero, Nat.add_zero] at u3
        omega
      · exact hl.mono (by omega)
    have m1 := Nat.mod_lt (f j + 1) hn
    have m2 := Nat.mod_lt (f (j + 1) + 1) hn
    have hl2 := (ltH_mod T T.length _ _).2 hl1
    have hr := ranks_le rfl hR h m1 m2 ((ahead_iff (Nat.le_of_lt m1) (Nat.le_of_lt m2)).2 (Or.inl hl2))
    by_cases g2 : R ((f j + 1) % T.length) / c < R ((f (j + 1) + 1) % T.length) / c
    · exact g2
    · exfalso
      have e3 := Nat.le_antisymm (Nat.div_le_div_right (c := c) (Nat.le_of_lt hr)) (Nat.le_of_not_lt g2)
      exact hl2.noteq (eqH_same hn hp ((hb.row hR hc h0 m1 m2).1 e3) _)
/-! ### Places, each once -/
theorem few_below : ∀ (n : Nat) (l : List Nat), l.Nodup → (∀ x ∈ l, x < n) → l.length ≤ n
  | 0, l, _, h => by
    cases l with
    | nil => exact Nat.le_refl _
    | cons a t => exact absurd (h a (List.mem_cons_self ..)) (by omega)
  | n + 1, l, hd, h => by
    by_cases hn : n ∈ l
    · have h1 := few_below n (l.erase n) (hd.erase n) (fun x hx => by
        have := (hd.mem_erase_iff).1 hx
        have := h x this.2
        omega)
      rw [List.length_erase_of_mem hn] at h1
      omega
    · have h1 := few_below n l hd (fun x hx => by
        have := h x hx
        have : x ≠ n := fun e => hn (e ▸ hx)
        omega)
      omega
theorem perm_range : ∀ (n : Nat) (l : List Nat), l.Nodup → (∀ x ∈ l, x < n) → l.length = n → l.Perm (List.range n)
  | 0, l, _, _, hl => by rw [List.eq_nil_of_length_eq_zero hl]; exact List.Perm.refl _
  | n + 1, l, hd, h, hl => by
    have hn : n ∈ l := by
      by_cases hn : n ∈ l
      · exact hn
      · exfalso
        have := few_below n l hd (fun x hx => by
          have := h x hx
          have : x ≠ n := fun e => hn (e ▸ hx)
          omega)
        omega
    have h1 := perm_range n (l.erase n) (hd.erase n) (fun x hx => by
      have := (hd.mem_erase_iff).1 hx
      have := h x this.2
      omega) (by rw [List.length_erase_of_mem hn]; omega)
    rw [List.range_succ]
    exact ((List.perm_cons_erase hn).trans (h1.cons n)).trans (List.perm_append_comm (l₁ := [n]) (l₂ := List.range n))
theorem perm_len {n : Nat} {P : List Nat} (h : P.Perm (List.range n)) : P.length = n := by rw [h.length_eq, List.length_range]
theorem perm_getD {n : Nat} {P : List Nat} (h : P.Perm (List.range n)) {j : Nat} (hj : j < n) : P.getD j 0 < n := by
  have hl := perm_len h
  have : P.getD j 0 ∈ P := by rw [List.getD_eq_getElem?_getD, List.getElem?_eq_getElem (by omega)]; exact List.getElem_mem _
  exact List.mem_range.1 (h.mem_iff.1 this)
theorem ranks_of {n : Nat} {P : List Nat} {R : Nat → Nat} (hP : P.Perm (List.range n)) (hR : ∀ j, j < n → R (P.getD j 0) = j) : Ranks n (fun j => P.getD j 0) R := by
  have hl := perm_len hP
  have key : ∀ i, i < n → ∃ j, j < n ∧ P.getD j 0 = i := fun i hi => by
    obtain ⟨j, hj, e⟩ := List.getElem_of_mem (hP.mem_iff.2 (List.mem_range.2 hi))
    exact ⟨j, by omega, by rw [List.getD_eq_getElem?_getD, List.getElem?_eq_getElem hj]; exact e⟩
  refine ⟨fun j hj => perm_getD hP hj, hR, fun i hi => ?_, fun i hi => ?_⟩
  · obtain ⟨j, hj, e⟩ := key i hi
    have := hR j hj
    rw [e] at this
    omega
  · obtain ⟨j, hj, e⟩ := key i hi
    have := hR j hj
    rw [e] at this
    show P.getD (R i) 0 = i
    rw [this, e]
theorem sorted_getD {T : List UInt8} {P : List Nat} (hP : P.Perm (List.range T.length)) : IsSorted T P ↔ ∀ j k, j < k → k < T.length → Ahead T (P.getD j 0) (P.getD k 0) := by
  have hl := perm_len hP
  unfold IsSorted
  rw [List.pairwise_iff_getElem]
  have hg : ∀ j (h : j < P.length), P.getD j 0 = P[j] := fun j h => by rw [List.getD_eq_getElem?_getD, List.getElem?_eq_getElem h]; rfl
  constructor
  · rintro ⟨_, h⟩ j k hjk hk
    rw [hg j (by omega), hg k (by omega)]
    exact h j k (by omega) (by omega) hjk
  · intro h
    refine ⟨hP, fun j k hj hk hjk => ?_⟩
    rw [← hg j hj, ← hg k hk]
    exact h j k hjk (by omega)

/-! ### The period, as the program looks for it -/
theorem shift_rot {T : List UInt8} {p : Nat} (h0 : 0 < p) (hd : p ∣ T.length) (hp : p ≤ T.length) : T.drop p = T.take (T.length - p) ↔ rot T p = T := by
  constructor
  · intro h
    have sh : ∀ i, i + p < T.length → T.getD (i + p) 0 = T.getD i 0 := fun i hi => by
      have := congrArg (fun l => l.getD i 0) h
      simp only [List.getD_eq_getElem?_getD, List.getElem?_drop] at this
      rw [List.getElem?_take_of_lt (by omega)] at this
      rw [List.getD_eq_getElem?_getD, List.getD_eq_getElem?_getD, Nat.add_comm]
      exact this
    have md : ∀ m i, i < p → i + m * p < T.length → T.getD (i + m * p) 0 = T.getD i 0 := fun m => by
      induction m with
      | zero => intro i _ _; simp
      | succ m ih =>
        intro i hi hm
        rw [Nat.add_mul, Nat.one_mul] at hm ⊢
        rw [← Nat.add_assoc, sh _ (by omega), ih i hi (by omega)]
    have md2 : ∀ i, i < T.length → T.getD i 0 = T.getD (i % p) 0 := fun i hi => by
      have e := Nat.mod_add_div i p
      rw [Nat.mul_comm] at e
      have := md (i / p) (i % p) (Nat.mod_lt _ h0) (by omega)
      rw [e] at this
      exact this
    have hl := rot_len T p hp
    apply List.ext_getElem hl
    intro i h1 h2
    have e := rot_getD T (i := p) hp h2
    rw [UInt8.toNat_inj.symm]
    have g1 : ((rot T p).getD i 0) = (rot T p)[i] := by rw [List.getD_eq_getElem?_getD, List.getElem?_eq_getElem h1]; rfl
    have g2 : T.getD i 0 = T[i] := by rw [List.getD_eq_getElem?_getD, List.getElem?_eq_getElem h2]; rfl
    rw [← g1, ← g2, e]
    by_cases c : p + i < T.length
    · rw [bt_in T c, Nat.add_comm, sh i (by omega)]
    · rw [bt_on T (by omega) (by omega), md2 _ (by omega), md2 i h2]
      congr 2
      obtain ⟨q, hq⟩ := hd
      obtain ⟨x, hx⟩ : ∃ x, x = p + i - T.length := ⟨_, rfl⟩
      rw [← hx]
      have h5 : p + i = x + p * q := by omega
      have h6 := congrArg (· % p) h5
      simp only [Nat.add_mod_left, Nat.add_mul_mod_self_left] at h6
      exact h6.symm
  · intro h
    have := congrArg (List.take (T.length - p)) h
    unfold rot at this
    rw [List.take_append_of_le_length (by rw [List.length_drop]; exact Nat.le_refl _), List.take_of_length_le (by rw [List.length_drop]; exact Nat.le_refl _)] at this
    exact this
theorem period_one {T : List UInt8} {p q : Nat} (h : IsPeriod T p) (g : IsPeriod T q) : p = q := Nat.le_antisymm (h.2.2.2 q g.1 g.2.1 g.2.2.1) (g.2.2.2 p h.1 h.2.1 h.2.2.1)
theorem period_at {T : List UInt8} {p : Nat} (h0 : 0 < p) (hd : p ∣ T.length) (hr : rot T p = T) (hno : ∀ q, 0 < q → q < p → ¬ (q ∣ T.length ∧ rot T q = T)) : IsPeriod T p := ⟨h0, hd, hr, fun q h1 h2 h3 => by
  by_cases c : p ≤ q
  · exact c
  · exact absurd ⟨h2, h3⟩ (hno q h1 (by omega))⟩
theorem period_all {T : List UInt8} (hn : 0 < T.length) (hno : ∀ q, 0 < q → q < T.length → ¬ (q ∣ T.length ∧ rot T q = T)) : IsPeriod T T.length := period_at hn (Nat.dvd_refl _) (rot_all T) hno
theorem dvd_half {q n : Nat} (h : q ∣ n) (hq : q < n) : q ≤ n / 2 := by
  obtain ⟨m, rfl⟩ := h
  have hm : 2 ≤ m := by
    rcases m with _ | _ | m
    · simp at hq
    · simp at hq
    · omega
  have := Nat.mul_le_mul_left q hm
  omega
end BwtM
end Go.Proofs.Ytglpbianmbjoeaa
namespace Go.Proofs.Ytglpbianmbjoeaa
namespace SrtM
open Go.RowKit BwtM
set_option linter.unusedVariables false

/-! ### Steps of a part -/
def passS (n : Nat) : Nat := if h : n < 2 then 1 else 1 + passS (n / 2) + passS (n - n / 2) + n / 2 + n
termination_by n
decreasing_by all_goals omega
theorem passS_small {n : Nat} (h : n < 2) : passS n = 1 := by rw [passS]; simp [h]
theorem passS_big {n : Nat} (h : 2 ≤ n) : passS n = 1 + passS (n / 2) + passS (n - n / 2) + n / 2 + n := by
  conv => lhs; rw [passS]
  simp [show ¬ n < 2 by omega]
theorem passS_pos (n : Nat) : 1 ≤ passS n := by
  by_cases h : n < 2
  · rw [passS_small h]; exact Nat.le_refl _
  · rw [passS_big (by omega)]; omega
theorem passS_le : ∀ (n b : Nat), 1 ≤ n → n ≤ 2 ^ b → passS n ≤ n * (3 + 3 * b)
  | n, 0, h1, h2 => by
    obtain rfl : n = 1 := by simp at h2; omega
    rw [passS_small (by omega)]
    decide
  | n, b + 1, h1, h2 => by
    by_cases h : n < 2
    · obtain rfl : n = 1 := by omega
      rw [passS_small (by omega)]
      omega
    · have e : 2 ^ (b + 1) = 2 * 2 ^ b := by rw [Nat.pow_succ, Nat.mul_comm]
      rw [e] at h2
      have i1 := passS_le (n / 2) b (by omega) (by omega)
      have i2 := passS_le (n - n / 2) b (by omega) (by omega)
      rw [passS_big (by omega)]
      have e2 : n * (3 + 3 * (b + 1)) = (n / 2) * (3 + 3 * b) + (n - n / 2) * (3 + 3 * b) + 3 * n := by
        rw [← Nat.add_mul, show n / 2 + (n - n / 2) = n by omega, show 3 + 3 * (b + 1) = (3 + 3 * b) + 3 by omega, Nat.mul_add n (3 + 3 * b) 3, Nat.mul_comm n 3]
      rw [e2]
      omega

/-! ### Two rows put together -/
def mrg (K : Nat → Nat) (l r : List Nat) : List Nat := List.merge l r (fun a b => decide (K a ≤ K b))
theorem mrg_nil (K : Nat → Nat) (r : List Nat) : mrg K [] r = r := by simp [mrg]
theorem mrg_nil_r (K : Nat → Nat) (l : List Nat) : mrg K l [] = l := by simp [mrg]
theorem mrg_le {K : Nat → Nat} {a b : Nat} (l r : List Nat) (h : K a ≤ K b) : mrg K (a :: l) (b :: r) = a :: mrg K l (b :: r) := by simp [mrg, h]
theorem mrg_gt {K : Nat → Nat} {a b : Nat} (l r : List Nat) (h : ¬ K a ≤ K b) : mrg K (a :: l) (b :: r) = b :: mrg K (a :: l) r := by simp [mrg, h]
theorem mrg_perm (K : Nat → Nat) (l r : List Nat) : (mrg K l r).Perm (l ++ r) := List.merge_perm_append ..
theorem mrg_length (K : Nat → Nat) (l r : List Nat) : (mrg K l r).length = l.length + r.length := by rw [(mrg_perm K l r).length_eq, List.length_append]
/-- By keys, those of one key by themselves. -/
def Lt (K : Nat → Nat) (x y : Nat) : Prop := K x < K y ∨ (K x = K y ∧ x < y)
theorem Lt.le {K : Nat → Nat} {x y : Nat} (h : Lt K x y) : K x ≤ K y := by rcases h with h | h <;> omega
theorem mrg_sorted (K : Nat → Nat) : ∀ (l r : List Nat), l.Pairwise (Lt K) → r.Pairwise (Lt K) → (∀ x ∈ l, ∀ y ∈ r, K x = K y → x < y) → (mrg K l r).Pairwise (Lt K)
  | [], r, _, h, _ => by rw [mrg_nil]; exact h
  | a :: l, [], h, _, _ => by rw [mrg_nil_r]; exact h
  | a :: l, b :: r, hl, hr, hx => by
    obtain ⟨hl1, hl2⟩ := List.pairwise_cons.1 hl
    obtain ⟨hr1, hr2⟩ := List.pairwise_cons.1 hr
    by_cases h : K a ≤ K b
    · rw [mrg_le l r h]
      refine List.pairwise_cons.2 ⟨fun y hy => ?_, mrg_sorted K l (b :: r) hl2 hr (fun x h1 y h2 => hx x (List.mem_cons_of_mem _ h1) y h2)⟩
      rcases List.mem_append.1 ((mrg_perm K l (b :: r)).mem_iff.1 hy) with hy | hy
      · exact hl1 y hy
      · have h2 : K b ≤ K y := by
          rcases List.mem_cons.1 hy with rfl | hy2
          · exact Nat.le_refl _
          · exact (hr1 y hy2).le
        by_cases e : K a = K y
        · exact Or.inr ⟨e, hx a (List.mem_cons_self ..) y hy e⟩
        · exact Or.inl (by omega)
    · rw [mrg_gt l r h]
      refine List.pairwise_cons.2 ⟨fun y hy => ?_, mrg_sorted K (a :: l) r hl hr2 (fun x h1 y h2 => hx x h1 y (List.mem_cons_of_mem _ h2))⟩
      rcases List.mem_append.1 ((mrg_perm K (a :: l) r).mem_iff.1 hy) with hy | hy
      · have h2 : K a ≤ K y := by
          rcases List.mem_cons.1 hy with rfl | hy2
          · exact Nat.le_refl _
          · exact (hl1 y hy2).le
        exact Or.inl (by omega)
      · exact hr1 y hy
termination_by l r => l.length + r.length
def msort (K : Nat → Nat) (l : List Nat) : List Nat := if h : l.length < 2 then l else mrg K (msort K (l.take (l.length / 2))) (msort K (l.drop (l.length / 2)))
termination_by l.length
decreasing_by
  · rw [List.length_take]; omega
  · rw [List.length_drop]; omega
theorem msort_small {K : Nat → Nat} {l : List Nat} (h : l.length < 2) : msort K l = l := by rw [msort]; simp [h]
theorem msort_big {K : Nat → Nat} {l : List Nat} (h : 2 ≤ l.length) : msort K l = mrg K (msort K (l.take (l.length / 2))) (msort K (l.drop (l.length / 2))) := by
  conv => lhs; rw [msort]
  simp [show ¬ l.length < 2 by omega]
theorem msort_perm (K : Nat → Nat) : ∀ (m : Nat) (l : List Nat), l.length ≤ m → (msort K l).Perm l
  | m, l, hm => by
    by_cases h : l.length < 2
    · rw [msort_small h]
    · match m, hm with
      | 0, hm => omega
      | m + 1, hm =>
        rw [msort_big (by omega)]
        refine (mrg_perm ..).trans ?_
        conv => rhs; rw [← List.take_append_drop (l.length / 2) l]
        exact (msort_perm K m _ (by rw [List.length_take]; omega)).append (msort_perm K m _ (by rw [List.length_drop]; omega))
theorem msort_length (K : Nat → Nat) (l : List Nat) : (msort K l).length = l.length := (msort_perm K _ l (Nat.le_refl _)).length_eq
theorem msort_sorted (K : Nat → Nat) : ∀ (m : Nat) (l : List Nat), l.length ≤ m → l.Pairwise (fun x y => K x = K y → x < y) → (msort K l).Pairwise (Lt K)
  | m, l, hm, hp => by
    by_cases h : l.length < 2
    · rw [msort_small h]
      match l, h with
      | [], _ => exact List.Pairwise.nil
      | [x], _ => exact List.pairwise_singleton _ _
      | _ :: _ :: _, h => simp at h; omega
    · match m, hm with
      | 0, hm => omega
      | m + 1, hm =>
        rw [msort_big (by omega)]
        have hp2 := hp
        rw [← List.take_append_drop (l.length / 2) l, List.pairwise_append] at hp2
        obtain ⟨h1, h2, h3⟩ := hp2
        refine mrg_sorted K _ _ (msort_sorted K m _ (by rw [List.length_take]; omega) h1) (msort_sorted K m _ (by rw [List.length_drop]; omega) h2) (fun x hx y hy => ?_)
        exact h3 x ((msort_perm K _ _ (Nat.le_refl _)).mem_iff.1 hx) y ((msort_perm K _ _ (Nat.le_refl _)).mem_iff.1 hy)

/-! ### Putting together, place by place -/
structure MrgAt (K : Nat → Nat) (X Y : List Nat) (f s : Nat) : Prop where
  fl : f ≤ X.length
  sl : s ≤ Y.length
  eq : (mrg K X Y).drop (f + s) = mrg K (X.drop f) (Y.drop s)
theorem MrgAt.start (K : Nat → Nat) (X Y : List Nat) : MrgAt K X Y 0 0 := ⟨Nat.zero_le _, Nat.zero_le _, by simp⟩
theorem drop_next {M : List Nat} {j a : Nat} {R : List Nat} (h : M.drop j = a :: R) : M.getD j 0 = a ∧ M.drop (j + 1) = R := by
  have hj : j < M.length := by
    have := congrArg List.length h
    rw [List.length_drop] at this
    simp at this
    omega
  rw [List.drop_eq_getElem_cons hj] at h
  obtain ⟨h1, h2⟩ := List.cons.inj h
  exact ⟨by rw [List.getD_eq_getElem?_getD, List.getElem?_eq_getElem hj]; exact h1, h2⟩
theorem drop_at {X : List Nat} {f : Nat} (h : f < X.length) : X.drop f = X.getD f 0 :: X.drop (f + 1) := by
  rw [List.getD_eq_getElem?_getD, List.getElem?_eq_getElem h]
  exact List.drop_eq_getElem_cons h
theorem MrgAt.first {K : Nat → Nat} {X Y : List Nat} {f s : Nat} (h : MrgAt K X Y f s) (hf : f < X.length) (hc : s = Y.length ∨ K (X.getD f 0) ≤ K (Y.getD s 0)) : (mrg K X Y).getD (f + s) 0 = X.getD f 0 ∧ MrgAt K X Y (f + 1) s := by
  have he := h.eq
  have h2 : mrg K (X.drop f) (Y.drop s) = X.getD f 0 :: mrg K (X.drop (f + 1)) (Y.drop s) := by
    rw [drop_at hf]
    by_cases e : s = Y.length
    · rw [e, List.drop_length, mrg_nil_r, mrg_nil_r]
    · have hs : s < Y.length := by have := h.sl; omega
      rw [drop_at hs]
      exact mrg_le _ _ (hc.resolve_left e)
  rw [h2] at he
  obtain ⟨e1, e2⟩ := drop_next he
  exact ⟨e1, by omega, h.sl, by rw [show f + 1 + s = f + s + 1 by omega]; exact e2⟩
theorem MrgAt.second {K : Nat → Nat} {X Y : List Nat} {f s : Nat} (h : MrgAt K X Y f s) (hs : s < Y.length) (hc : f = X.length ∨ ¬ K (X.getD f 0) ≤ K (Y.getD s 0)) : (mrg K X Y).getD (f + s) 0 = Y.getD s 0 ∧ MrgAt K X Y f (s + 1) := by
  have he := h.eq
  have h2 : mrg K (X.drop f) (Y.drop s) = Y.getD s 0 :: mrg K (X.drop f) (Y.drop (s + 1)) := by
    rw [drop_at hs]
    by_cases e : f = X.length
    · rw [e, List.drop_length, mrg_nil, mrg_nil]
    · have hf : f < X.length := by have := h.fl; omega
      rw [drop_at hf]
      exact mrg_gt _ _ (hc.resolve_left e)
  rw [h2] at he
  obtain ⟨e1, e2⟩ := drop_next he
  exact ⟨e1, h.fl, by omega, by rw [show f + (s + 1) = f + s + 1 by omega]; exact e2⟩

/-! ### Parts on a stack -/
structure Part where
  lo : Nat
  hi : Nat
  begun : Bool
def Part.mid (p : Part) : Nat := (p.lo + p.hi) / 2
def Part.cost (p : Part) : Nat := if p.begun then (p.hi - p.lo) / 2 + (p.hi - p.lo) else passS (p.hi - p.lo)
/-- What becomes of the places, when a part is done. -/
def opP (K : Nat → Nat) (p : Part) (A : List Nat) : List Nat :=
  A.take p.lo ++ (if p.begun then mrg K ((A.drop p.lo).take (p.mid - p.lo)) ((A.drop p.mid).take (p.hi - p.mid)) else msort K ((A.drop p.lo).take (p.hi - p.lo))) ++ A.drop p.hi
theorem op_sort {K : Nat → Nat} {P X Q : List Nat} {lo hi : Nat} (h1 : P.length = lo) (h2 : lo + X.length = hi) : opP K ⟨lo, hi, false⟩ (P ++ X ++ Q) = P ++ msort K X ++ Q := by
  unfold opP
  simp only [Bool.false_eq_true, if_false]
  have e1 : (P ++ X ++ Q).take lo = P := by rw [List.append_assoc, ← h1, List.take_left]
  have e2 : (P ++ X ++ Q).drop lo = X ++ Q := by rw [List.append_assoc, ← h1, List.drop_left]
  have e3 : (P ++ X ++ Q).drop hi = Q := by rw [← h2, ← h1, ← List.length_append, List.drop_left]
  have e4 : (X ++ Q).take (hi - lo) = X := by rw [show hi - lo = X.length by omega, List.take_left]
  rw [e1, e2, e3, e4]
theorem op_merge {K : Nat → Nat} {P X Y Q : List Nat} {lo hi : Nat} (h1 : P.length = lo) (h2 : (⟨lo, hi, true⟩ : Part).mid = lo + X.length) (h3 : lo + X.length + Y.length = hi) : opP K ⟨lo, hi, true⟩ (P ++ (X ++ Y) ++ Q) = P ++ mrg K X Y ++ Q := by
  unfold opP
  simp only [if_true, h2]
  have e1 : (P ++ (X ++ Y) ++ Q).take lo = P := by rw [List.append_assoc, ← h1, List.take_left]
  have e2 : (P ++ (X ++ Y) ++ Q).drop lo = X ++ (Y ++ Q) := by rw [List.append_assoc, ← h1, List.drop_left, List.append_assoc]
  have e3 : (P ++ (X ++ Y) ++ Q).drop hi = Q := by rw [← h3, ← h1, show P.length + X.length + Y.length = (P ++ (X ++ Y)).length by simp; omega, List.drop_left]
  have e4 : (X ++ (Y ++ Q)).take (lo + X.length - lo) = X := by rw [show lo + X.length - lo = X.length by omega, List.take_left]
  have e5 : (P ++ (X ++ Y) ++ Q).drop (lo + X.length) = Y ++ Q := by rw [← h1, show P ++ (X ++ Y) ++ Q = (P ++ X) ++ (Y ++ Q) by simp, show P.length + X.length = (P ++ X).length by simp, List.drop_left]
  have e6 : (Y ++ Q).take (hi - (lo + X.length)) = Y := by rw [show hi - (lo + X.length) = Y.length by omega, List.take_left]
  rw [e1, e2, e3, e4, e5, e6]
theorem op_small {K : Nat → Nat} {A : List Nat} {lo hi : Nat} (h1 : lo ≤ hi) (h2 : hi ≤ A.length) (h3 : hi - lo < 2) : opP K ⟨lo, hi, false⟩ A = A := by
  have e : A = A.take lo ++ (A.drop lo).take (hi - lo) ++ A.drop hi := by
    conv => lhs; rw [← List.take_append_drop lo A, ← List.take_append_drop (hi - lo) (A.drop lo), List.drop_drop, show lo + (hi - lo) = hi by omega]
    rw [List.append_assoc]
  conv => lhs; rw [e]
  rw [op_sort (by rw [List.length_take]; omega) (by rw [List.length_take, List.length_drop]; omega), msort_small (by rw [List.length_take]; omega), ← e]
theorem mid_half (lo hi : Nat) (b : Bool) (h : lo ≤ hi) : (⟨lo, hi, b⟩ : Part).mid = lo + (hi - lo) / 2 := by
  show (lo + hi) / 2 = _
  omega
theorem op_halves {K : Nat → Nat} {A : List Nat} {lo hi : Nat} (h1 : lo + 2 ≤ hi) (h2 : hi ≤ A.length) :
    opP K ⟨lo, hi, true⟩ (opP K ⟨lo + (hi - lo) / 2, hi, false⟩ (opP K ⟨lo, lo + (hi - lo) / 2, false⟩ A)) = opP K ⟨lo, hi, false⟩ A := by
  obtain ⟨P, X, Q, rfl, hP, hX⟩ : ∃ P X Q, A = P ++ X ++ Q ∧ P.length = lo ∧ X.length = hi - lo := ⟨A.take lo, (A.drop lo).take (hi - lo), A.drop hi, by
    conv => lhs; rw [← List.take_append_drop lo A, ← List.take_append_drop (hi - lo) (A.drop lo), List.drop_drop, show lo + (hi - lo) = hi by omega]
    rw [List.append_assoc], by rw [List.length_take]; omega, by rw [List.length_take, List.length_drop]; omega⟩
  have ha : (X.take (X.length / 2)).length = (hi - lo) / 2 := by rw [List.length_take, hX]; omega
  have hb : (X.drop (X.length / 2)).length = (hi - lo) - (hi - lo) / 2 := by rw [List.length_drop, hX]
  have e1 : opP K ⟨lo, hi, false⟩ (P ++ X ++ Q) = P ++ msort K X ++ Q := op_sort hP (by omega)
  have e0 : P ++ X ++ Q = P ++ X.take (X.length / 2) ++ (X.drop (X.length / 2) ++ Q) := by
    rw [List.append_assoc P (X.take _), ← List.append_assoc (X.take _), List.take_append_drop, List.append_assoc]
  have e2 : opP K ⟨lo, lo + (hi - lo) / 2, false⟩ (P ++ X ++ Q) = P ++ msort K (X.take (X.length / 2)) ++ (X.drop (X.length / 2) ++ Q) := by
    rw [e0]
    exact op_sort hP (by rw [ha])
  have e3 : opP K ⟨lo + (hi - lo) / 2, hi, false⟩ (P ++ msort K (X.take (X.length / 2)) ++ (X.drop (X.length / 2) ++ Q)) = (P ++ msort K (X.take (X.length / 2))) ++ msort K (X.drop (X.length / 2)) ++ Q := by
    rw [← List.append_assoc]
    exact op_sort (by rw [List.length_append, msort_length, hP, ha]) (by rw [hb]; omega)
  rw [e1, e2, e3, List.append_assoc P]
  rw [op_merge hP (by rw [mid_half _ _ _ (by omega), msort_length, ha]) (by rw [msort_length, msort_length, ha, hb]; omega), msort_big (l := X) (by omega)]
def runAll (K : Nat → Nat) (stk : List Part) (A : List Nat) : List Nat := stk.foldl (fun A p => opP K p A) A
theorem runAll_cons (K : Nat → Nat) (p : Part) (stk : List Part) (A : List Nat) : runAll K (p :: stk) A = runAll K stk (opP K p A) := rfl
theorem op_whole (K : Nat → Nat) (A : List Nat) : opP K ⟨0, A.length, false⟩ A = msort K A := by
  have := op_sort (K := K) (P := []) (X := A) (Q := []) (lo := 0) (hi := A.length) rfl (by omega)
  simpa using this
def costs (stk : List Part) : Nat := (stk.map Part.cost).sum
end SrtM
end Go.Proofs.Ytglpbianmbjoeaa
namespace Go.Proofs.Ytglpbianmbjoeaa
namespace SrtM
open Go.RowKit BwtM
set_option linter.unusedVariables false

/-! ### Keys -/
/-- Keys tell which rotation is less by its first H bytes. -/
def KeyH (T : List UInt8) (H : Nat) (K : Nat → Nat) : Prop := ∀ i k, i < T.length → k < T.length → (K i < K k ↔ ltH T H i k)
theorem KeyH.eq {T : List UInt8} {H : Nat} {K : Nat → Nat} (h : KeyH T H K) {i k : Nat} (hi : i < T.length) (hk : k < T.length) : K i = K k ↔ eqH T H i k := by
  have h1 := h i k hi hk
  have h2 := h k i hk hi
  constructor
  · intro e
    rcases ltH_total T i k H with g | g | g
    · have := h1.2 g; omega
    · exact g
    · have := h2.2 g; omega
  · intro e
    have a : ¬ K i < K k := fun g => (h1.1 g).noteq e
    have b : ¬ K k < K i := fun g => (h2.1 g).noteq e.symm
    omega
theorem KeyH.first (T : List UInt8) : KeyH T 1 (bt T) := fun i k _ _ => by
  constructor
  · intro h
    exact ⟨0, by omega, fun t ht => by omega, h⟩
  · rintro ⟨t, ht, _, h⟩
    obtain rfl : t = 0 := by omega
    exact h
/-- The key of a further pass. -/
def keyC (n h : Nat) (C : Nat → Nat) (i : Nat) : Nat := C i * n + C ((i + h) % n)
theorem mul_lt_add {a b c n : Nat} (hb : b < n) : a < c → a * n + b < c * n := fun h => by
  have := Nat.mul_le_mul_right n (show a + 1 ≤ c from h)
  rw [Nat.add_mul, Nat.one_mul] at this
  omega
theorem KeyH.twice {T : List UInt8} {h : Nat} {C : Nat → Nat} (hC : KeyH T h C) (hb : ∀ i, i < T.length → C i < T.length) : KeyH T (h + h) (keyC T.length h C) := fun i k hi hk => by
  have hn : 0 < T.length := by omega
  have h1 := Nat.mod_lt (i + h) hn
  have h2 := Nat.mod_lt (k + h) hn
  have l1 := hC i k hi hk
  have e1 := hC.eq hi hk
  have l2 := hC _ _ h1 h2
  rw [ltH_mod] at l2
  rw [ltH_add, ← l1, ← e1, ← l2]
  unfold keyC
  have b1 := hb _ h1
  have b2 := hb _ h2
  constructor
  · intro g
    rcases Nat.lt_trichotomy (C i) (C k) with c | c | c
    · exact Or.inl c
    · rw [c] at g
      exact Or.inr ⟨c, by omega⟩
    · have := mul_lt_add b2 c
      omega
  · rintro (c | ⟨c, g⟩)
    · have := mul_lt_add b1 c
      omega
    · rw [c]
      omega
theorem keyC_mod (n h : Nat) (C : Nat → Nat) (i : Nat) : keyC n (h % n) C i = keyC n h C i := by
  unfold keyC
  rw [Nat.add_mod_mod]

/-! ### The order behind a pass -/
/-- P are the places by the first H bytes, those that are alike by themselves. -/
def SortH (T : List UInt8) (H : Nat) (P : List Nat) : Prop := P.Perm (List.range T.length) ∧ P.Pairwise (fun i k => ltH T H i k ∨ (eqH T H i k ∧ i < k))
theorem sortH_mem {T : List UInt8} {H : Nat} {P : List Nat} (h : SortH T H P) {i : Nat} (hi : i ∈ P) : i < T.length := List.mem_range.1 (h.1.mem_iff.1 hi)
/-- What is sorted by keys of more bytes. -/
theorem sortH_next {T : List UInt8} {G H : Nat} {K : Nat → Nat} {A : List Nat} (hK : KeyH T H K) (hA : A.Perm (List.range T.length)) (hs : A.Pairwise (fun x y => K x = K y → x < y)) : SortH T H (msort K A) := by
  have hp := msort_perm K _ A (Nat.le_refl _)
  have hs2 := msort_sorted K _ A (Nat.le_refl _) hs
  refine ⟨hp.trans hA, ?_⟩
  have hm : ∀ x ∈ msort K A, x < T.length := fun x hx => List.mem_range.1 (hA.mem_iff.1 (hp.mem_iff.1 hx))
  refine List.Pairwise.imp_of_mem (fun {x y} hx hy h => ?_) hs2
  rcases h with h | ⟨h, h2⟩
  · exact Or.inl ((hK x y (hm x hx) (hm y hy)).1 h)
  · exact Or.inr ⟨(hK.eq (hm x hx) (hm y hy)).1 h, h2⟩
/-- The order of a pass is one for the next. -/
theorem sortH_stable {T : List UInt8} {G H : Nat} {K : Nat → Nat} {A : List Nat} (hA : SortH T G A) (hGH : G ≤ H) (hK : KeyH T H K) : A.Pairwise (fun x y => K x = K y → x < y) := by
  refine List.Pairwise.imp_of_mem (fun {x y} hx hy h e => ?_) hA.2
  have he := ((hK.eq (sortH_mem hA hx) (sortH_mem hA hy)).1 e).mono hGH
  rcases h with h | h
  · exact absurd he h.noteq
  · exact h.2
theorem range_stable {K : Nat → Nat} (n : Nat) : (List.range n).Pairwise (fun x y => K x = K y → x < y) := List.Pairwise.imp (S := fun x y => K x = K y → x < y) (fun h _ => h) List.pairwise_lt_range
theorem sortH_done {T : List UInt8} {H : Nat} {P : List Nat} (h : SortH T H P) (hd : T.length ≤ H ∨ ∀ i k, i < T.length → k < T.length → i ≠ k → ¬ eqH T H i k) : IsSorted T P := by
  refine ⟨h.1, List.Pairwise.imp_of_mem (fun {x y} hx hy g => ?_) h.2⟩
  have hx2 := sortH_mem h hx
  have hy2 := sortH_mem h hy
  rw [ahead_iff (by omega) (by omega)]
  rcases g with g | ⟨g, g2⟩
  · exact Or.inl (ltH_down g)
  · rcases hd with hd | hd
    · exact Or.inr ⟨g.mono hd, g2⟩
    · exact absurd g (hd x y hx2 hy2 (by omega))

/-! ### Classes -/
/-- The class of the place at rank j. -/
def cN (K : Nat → Nat) (P : List Nat) : Nat → Nat
  | 0 => 0
  | j + 1 => if K (P.getD (j + 1) 0) = K (P.getD j 0) then cN K P j else cN K P j + 1
theorem cN_le (K : Nat → Nat) (P : List Nat) : ∀ j, cN K P j ≤ j
  | 0 => Nat.le_refl _
  | j + 1 => by
    have := cN_le K P j
    unfold cN
    split <;> omega
theorem cN_step (K : Nat → Nat) (P : List Nat) (j : Nat) : cN K P j ≤ cN K P (j + 1) ∧ cN K P (j + 1) ≤ cN K P j + 1 ∧ (cN K P j = cN K P (j + 1) ↔ K (P.getD (j + 1) 0) = K (P.getD j 0)) := by
  rw [show cN K P (j + 1) = if K (P.getD (j + 1) 0) = K (P.getD j 0) then cN K P j else cN K P j + 1 from rfl]
  split
  · exact ⟨by omega, by omega, ⟨fun _ => by assumption, fun _ => rfl⟩⟩
  · exact ⟨by omega, by omega, ⟨fun h => by omega, fun h => absurd h (by assumption)⟩⟩
theorem cN_mono (K : Nat → Nat) (P : List Nat) (j : Nat) : ∀ d, cN K P j ≤ cN K P (j + d)
  | 0 => Nat.le_refl _
  | d + 1 => Nat.le_trans (cN_mono K P j d) (cN_step K P (j + d)).1
/-- Classes of a row that stands by its keys tell what keys tell. -/
theorem cN_lt {K : Nat → Nat} {P : List Nat} (h : ∀ i, i + 1 < P.length → K (P.getD i 0) ≤ K (P.getD (i + 1) 0)) (j : Nat) : ∀ d, j + d < P.length → K (P.getD j 0) ≤ K (P.getD (j + d) 0) ∧ (cN K P j < cN K P (j + d) ↔ K (P.getD j 0) < K (P.getD (j + d) 0))
  | 0, _ => ⟨Nat.le_refl _, by simp⟩
  | d + 1, hd => by
    obtain ⟨h1, h2⟩ := cN_lt h j d (by omega)
    have h3 := h (j + d) (by omega)
    have h4 := cN_step K P (j + d)
    have h5 := cN_mono K P j d
    rw [show j + (d + 1) = j + d + 1 by omega]
    refine ⟨Nat.le_trans h1 h3, ?_⟩
    by_cases e : K (P.getD (j + d + 1) 0) = K (P.getD (j + d) 0)
    · rw [← h4.2.2.2 e, e]
      exact h2
    · have : cN K P (j + d + 1) ≠ cN K P (j + d) := fun g => e (h4.2.2.1 g.symm)
      constructor <;> intro _ <;> omega
theorem cN_keys {K : Nat → Nat} {P : List Nat} (h : ∀ i, i + 1 < P.length → K (P.getD i 0) ≤ K (P.getD (i + 1) 0)) {i k : Nat} (hi : i < P.length) (hk : k < P.length) : cN K P i < cN K P k ↔ K (P.getD i 0) < K (P.getD k 0) := by
  by_cases c : i ≤ k
  · obtain ⟨d, rfl⟩ := Nat.exists_eq_add_of_le c
    exact (cN_lt h i d hk).2
  · obtain ⟨d, rfl⟩ := Nat.exists_eq_add_of_le (show k ≤ i by omega)
    have h1 := (cN_lt h k d hi).1
    have h2 := cN_mono K P k d
    constructor <;> intro _ <;> omega
/-- All classes are unlike just if the last is as great as can be. -/
theorem cN_all {K : Nat → Nat} {P : List Nat} {n : Nat} (hn : 0 < n) : cN K P (n - 1) = n - 1 ↔ ∀ i, i + 1 < n → K (P.getD (i + 1) 0) ≠ K (P.getD i 0) := by
  have key : ∀ m, cN K P m = m ↔ ∀ i, i < m → K (P.getD (i + 1) 0) ≠ K (P.getD i 0) := fun m => by
    induction m with
    | zero => exact ⟨fun _ i h => by omega, fun _ => rfl⟩
    | succ m ih =>
      have h1 := cN_step K P m
      have h2 := cN_le K P m
      constructor
      · intro h i hi
        rcases Nat.lt_or_ge i m with g | g
        · exact ih.1 (by omega) i g
        · obtain rfl : i = m := by omega
          intro e
          have := h1.2.2.2 e
          omega
      · intro h
        have h3 := ih.2 (fun i hi => h i (by omega))
        have h4 : cN K P m ≠ cN K P (m + 1) := fun e => h m (by omega) (h1.2.2.1 e)
        omega
  rw [key]
  exact ⟨fun h i hi => h i (by omega), fun h i hi => h i (by omega)⟩
/-- Classes that are made for the first places. -/
def NumAt (K : Nat → Nat) (P C : List Nat) (m : Nat) : Prop := ∀ j, j < m → C.getD (P.getD j 0) 0 = cN K P j
theorem NumAt.start (K : Nat → Nat) (P C : List Nat) : NumAt K P C 0 := fun j h => by omega
theorem NumAt.next {K : Nat → Nat} {P C : List Nat} {m n : Nat} (h : NumAt K P C m) (hP : P.Perm (List.range n)) (hm : m < n) (hC : C.length = n) : NumAt K P (C.set (P.getD m 0) (cN K P m)) (m + 1) := fun j hj => by
  have hl := perm_len hP
  have hd : P.Nodup := hP.nodup_iff.2 List.nodup_range
  have hg : ∀ i, i < n → P.getD i 0 = P.getD i 0 := fun _ _ => rfl
  rw [List.getD_eq_getElem?_getD, List.getElem?_set]
  by_cases e : P.getD m 0 = P.getD j 0
  · have ejm : j = m := by
      have h1 : P[m]? = P[j]? := by
        have hm2 : m < P.length := by omega
        have hj2 : j < P.length := by omega
        rw [List.getElem?_eq_getElem hm2, List.getElem?_eq_getElem hj2]
        rw [List.getD_eq_getElem?_getD, List.getD_eq_getElem?_getD, List.getElem?_eq_getElem hm2, List.getElem?_eq_getElem hj2] at e
        exact congrArg some e
      exact ((List.getElem?_inj (by omega) hd).1 h1).symm
    subst ejm
    rw [if_pos e, if_pos (by rw [hC]; exact perm_getD hP (by omega))]
    rfl
  · rw [if_neg e, ← List.getD_eq_getElem?_getD]
    exact h j (by
      have : j ≠ m := fun g => e (by rw [g])
      omega)
/-- Behind a pass the classes are keys for the first bytes. -/
theorem classes_key {T : List UInt8} {H : Nat} {K : Nat → Nat} {P C : List Nat} (hK : KeyH T H K) (hP : SortH T H P) (hN : NumAt K P C T.length) : KeyH T H (fun i => C.getD i 0) ∧ ∀ i, i < T.length → C.getD i 0 < T.length := by
  have hl := perm_len hP.1
  have hle : ∀ i, i + 1 < P.length → K (P.getD i 0) ≤ K (P.getD (i + 1) 0) := fun i hi => by
    have h1 := List.pairwise_iff_getElem.1 hP.2 i (i + 1) (by omega) hi (by omega)
    have g1 : P.getD i 0 = P[i]'(by omega) := by rw [List.getD_eq_getElem?_getD, List.getElem?_eq_getElem (by omega)]; rfl
    have g2 : P.getD (i + 1) 0 = P[i + 1] := by rw [List.getD_eq_getElem?_getD, List.getElem?_eq_getElem hi]; rfl
    rw [← g1, ← g2] at h1
    have b1 := perm_getD hP.1 (j := i) (by omega)
    have b2 := perm_getD hP.1 (j := i + 1) (by omega)
    rcases h1 with h1 | h1
    · exact Nat.le_of_lt ((hK _ _ b1 b2).2 h1)
    · rw [(hK.eq b1 b2).2 h1.1]
      exact Nat.le_refl _
  have rank : ∀ i, i < T.length → ∃ j, j < P.length ∧ P.getD j 0 = i := fun i hi => by
    obtain ⟨j, hj, e⟩ := List.getElem_of_mem (hP.1.mem_iff.2 (List.mem_range.2 hi))
    exact ⟨j, hj, by rw [List.getD_eq_getElem?_getD, List.getElem?_eq_getElem hj]; exact e⟩
  constructor
  · intro i k hi hk
    obtain ⟨j, hj, rfl⟩ := rank i hi
    obtain ⟨m, hm, rfl⟩ := rank k hk
    show C.getD _ 0 < C.getD _ 0 ↔ _
    rw [hN j (by omega), hN m (by omega), cN_keys hle hj hm]
    exact hK _ _ hi hk
  · intro i hi
    obtain ⟨j, hj, rfl⟩ := rank i hi
    rw [hN j (by omega)]
    have := cN_le K P j
    omega
theorem classes_unlike {T : List UInt8} {H : Nat} {K : Nat → Nat} {P C : List Nat} (hK : KeyH T H K) (hP : SortH T H P) (hN : NumAt K P C T.length) (hn : 0 < T.length) :
    C.getD (P.getD (T.length - 1) 0) 0 = T.length - 1 ↔ ∀ i k, i < T.length → k < T.length → i ≠ k → ¬ eqH T H i k := by
  have hl := perm_len hP.1
  rw [hN _ (by omega), cN_all hn]
  constructor
  · intro h
    have hcl := (classes_key hK hP hN).1
    have hlt : ∀ i d, i + d + 1 < P.length → K (P.getD i 0) < K (P.getD (i + d + 1) 0) := fun i d => by
      have one : ∀ j, j + 1 < P.length → K (P.getD j 0) < K (P.getD (j + 1) 0) := fun j hj => by
        have h1 := List.pairwise_iff_getElem.1 hP.2 j (j + 1) (by omega) hj (by omega)
        have g1 : P.getD j 0 = P[j]'(by omega) := by rw [List.getD_eq_getElem?_getD, List.getElem?_eq_getElem (by omega)]; rfl
        have g2 : P.getD (j + 1) 0 = P[j + 1] := by rw [List.getD_eq_getElem?_getD, List.getElem?_eq_getElem hj]; rfl
        rw [← g1, ← g2] at h1
        have b1 := perm_getD hP.1 (j := j) (by omega)
        have b2 := perm_getD hP.1 (j := j + 1) (by omega)
        rcases h1 with h1 | h1
        · exact (hK _ _ b1 b2).2 h1
        · exact absurd ((hK.eq b1 b2).2 h1.1).symm (h j (by omega))
      induction d with
      | zero => intro hd; exact one i hd
      | succ d ih => intro hd; exact Nat.lt_trans (ih (by omega)) (one (i + d + 1) hd)
    intro i k hi hk hne he
    obtain ⟨j, hj, rfl⟩ := List.getElem_of_mem (hP.1.mem_iff.2 (List.mem_range.2 hi))
    obtain ⟨m, hm, rfl⟩ := List.getElem_of_mem (hP.1.mem_iff.2 (List.mem_range.2 hk))
    have g1 : P.getD j 0 = P[j] := by rw [List.getD_eq_getElem?_getD, List.getElem?_eq_getElem hj]; rfl
    have g2 : P.getD m 0 = P[m] := by rw [List.getD_eq_getElem?_getD, List.getElem?_eq_getElem hm]; rfl
    rw [← g1, ← g2] at he
    rw [← g1] at hi
    rw [← g2] at hk
    have e := (hK.eq hi hk).2 he
    rcases Nat.lt_trichotomy j m with c | c | c
    · have := hlt j (m - j - 1) (by omega)
      rw [show j + (m - j - 1) + 1 = m by omega] at this
      omega
    · subst c
      exact hne rfl
    · have := hlt m (j - m - 1) (by omega)
      rw [show m + (j - m - 1) + 1 = j by omega] at this
      omega
  · intro h i hi e
    have hd : P.Nodup := hP.1.nodup_iff.2 List.nodup_range
    have b1 := perm_getD hP.1 (j := i) (by omega)
    have b2 := perm_getD hP.1 (j := i + 1) (by omega)
    refine h _ _ b2 b1 (fun g => ?_) ((hK.eq b2 b1).1 e)
    have h1 : P[i + 1]? = P[i]? := by
      rw [List.getElem?_eq_getElem (by omega), List.getElem?_eq_getElem (show i < P.length by omega)]
      rw [List.getD_eq_getElem?_getD, List.getD_eq_getElem?_getD, List.getElem?_eq_getElem (show i + 1 < P.length by omega), List.getElem?_eq_getElem (show i < P.length by omega)] at g
      exact congrArg some g
    have := (List.getElem?_inj (by omega) hd).1 h1
    omega

/-! ### How many passes -/
/-- By how many bytes a pass with this reach sorts. -/
def bytesBy (r : Nat) : Nat := if r = 0 then 1 else 2 * r
def Unlike (T : List UInt8) (H : Nat) : Prop := ∀ i k, i < T.length → k < T.length → i ≠ k → ¬ eqH T H i k
/-- Is it done behind a pass with this reach? -/
def Ends (T : List UInt8) (r : Nat) : Prop := Unlike T (bytesBy r) ∨ T.length ≤ r
/-- Behind a pass with reach r so many more are to come. -/
inductive Rem (T : List UInt8) : Nat → Nat → Prop
  | done {r : Nat} : Ends T r → Rem T r 0
  | more {r m : Nat} : ¬ Ends T r → Rem T (bytesBy r) m → Rem T r (m + 1)
theorem Rem.one {T : List UInt8} {r m k : Nat} (h : Rem T r m) : Rem T r k → m = k := by
  induction h generalizing k with
  | done h =>
    intro g
    cases g with
    | done _ => rfl
    | more g _ => exact absurd h g
  | more h _ ih =>
    intro g
    cases g with
    | done g => exact absurd g h
    | more _ g => rw [ih g]
theorem rem_pow (T : List UInt8) : ∀ (d a : Nat), T.length ≤ 2 ^ (a + d) → ∃ m, m ≤ d ∧ Rem T (2 ^ a) m
  | 0, a, h => ⟨0, Nat.le_refl _, .done (Or.inr h)⟩
  | d + 1, a, h => by
    by_cases e : Ends T (2 ^ a)
    · exact ⟨0, by omega, .done e⟩
    · obtain ⟨m, hm, hr⟩ := rem_pow T d (a + 1) (by rw [show a + 1 + d = a + (d + 1) by omega]; exact h)
      refine ⟨m + 1, by omega, .more e ?_⟩
      have hp : 2 ^ a ≠ 0 := by have := Nat.pow_pos (n := a) (show 0 < 2 by omega); omega
      have eb : bytesBy (2 ^ a) = 2 ^ (a + 1) := by unfold bytesBy; rw [if_neg hp, Nat.pow_succ, Nat.mul_comm]
      rw [eb]
      exact hr
theorem rem_zero (T : List UInt8) (b : Nat) (h : T.length ≤ 2 ^ b) : ∃ m, m ≤ b + 1 ∧ Rem T 0 m := by
  by_cases e : Ends T 0
  · exact ⟨0, by omega, .done e⟩
  · obtain ⟨m, hm, hr⟩ := rem_pow T b 0 (by rw [Nat.zero_add]; exact h)
    exact ⟨m + 1, by omega, .more e hr⟩
/-- The steps of a pass. -/
def each (n : Nat) : Nat := passS n + n
theorem total_le {n b m : Nat} (h1 : 1 ≤ n) (h2 : n ≤ 2 ^ b) (hm : m ≤ b + 1) : each n * (m + 1) ≤ n * (4 + 3 * b) * (b + 2) := by
  have h := passS_le n b h1 h2
  refine Nat.mul_le_mul ?_ (by omega)
  unfold each
  rw [show 4 + 3 * b = (3 + 3 * b) + 1 by omega, Nat.mul_add n (3 + 3 * b) 1]
  omega
end SrtM
end Go.Proofs.Ytglpbianmbjoeaa
namespace Go.Proofs.Ytglpbianmbjoeaa
namespace SrtM
open Go.RowKit BwtM
set_option linter.unusedVariables false

theorem op_perm {K : Nat → Nat} {p : Part} {A : List Nat} (h1 : p.lo ≤ p.hi) (h2 : p.hi ≤ A.length) : (opP K p A).Perm A := by
  obtain ⟨lo, hi, b⟩ := p
  simp only at h1 h2
  have e : A = A.take lo ++ (A.drop lo).take (hi - lo) ++ A.drop hi := by
    conv => lhs; rw [← List.take_append_drop lo A, ← List.take_append_drop (hi - lo) (A.drop lo), List.drop_drop, show lo + (hi - lo) = hi by omega]
    rw [List.append_assoc]
  cases b with
  | false =>
    conv => rhs; rw [e]
    unfold opP
    simp only [Bool.false_eq_true, if_false]
    exact ((msort_perm K _ _ (Nat.le_refl _)).append_left _).append_right _
  | true =>
    have hm := mid_half lo hi true h1
    have e2 : (A.drop lo).take (hi - lo) = (A.drop lo).take ((⟨lo, hi, true⟩ : Part).mid - lo) ++ (A.drop (⟨lo, hi, true⟩ : Part).mid).take (hi - (⟨lo, hi, true⟩ : Part).mid) := by
      rw [hm]
      conv => lhs; rw [← List.take_append_drop (lo + (hi - lo) / 2 - lo) ((A.drop lo).take (hi - lo))]
      rw [List.take_take, List.drop_take, List.drop_drop]
      congr 2
      · omega
      · omega
      · congr 1
        omega
    conv => rhs; rw [e, e2]
    unfold opP
    simp only [if_true]
    exact ((mrg_perm K _ _).append_left _).append_right _
/-- What a sorter holds. -/
structure SS where
  ord : List Nat
  cls : List Nat
  asd : List Nat
  reach : Nat
  ps : List Part
  laid : Nat
  first : Nat
  second : Nat
  made : Nat
  steps : Nat
def segX (A : List Nat) (p : Part) : List Nat := (A.drop p.lo).take (p.mid - p.lo)
def segY (A : List Nat) (p : Part) : List Nat := (A.drop p.mid).take (p.hi - p.mid)
/-- Where the part on top stands. -/
def TopAt (K : Nat → Nat) (S : SS) (A : List Nat) (p : Part) : Prop :=
  (p.begun = false ∧ S.laid = 0 ∧ S.first = 0 ∧ S.second = 0 ∧ S.ord = A) ∨
  (p.begun = true ∧ MrgAt K (segX A p) (segY A p) S.first S.second ∧ S.laid ≤ p.mid - p.lo ∧ (0 < S.first + S.second → S.laid = p.mid - p.lo) ∧
    S.ord = A.take p.lo ++ (mrg K (segX A p) (segY A p)).take (S.first + S.second) ++ A.drop (p.lo + (S.first + S.second)) ∧ ∀ i, i < S.laid → S.asd.getD i 0 = A.getD (p.lo + i) 0)
def Fits (n : Nat) (p : Part) : Prop := p.lo ≤ p.hi ∧ p.hi ≤ n ∧ (p.begun = true → p.lo + 2 ≤ p.hi)
/-- A pass is sorting: p is on top of the parts ps. -/
structure Srt (T : List UInt8) (K : Nat → Nat) (S : SS) (ps : List Part) (p : Part) (A : List Nat) (m R : Nat) : Prop where
  stk : S.ps = ps ++ [p]
  made : S.made = 0
  perm : A.Perm (List.range T.length)
  goal : SortH T (bytesBy S.reach) (runAll K (p :: ps.reverse) A)
  rem : Rem T S.reach m
  fits : ∀ q ∈ ps ++ [p], Fits T.length q
  top : TopAt K S A p
  left : R + (S.laid + S.first + S.second) = costs (ps ++ [p]) + T.length + each T.length * m
/-- A pass is making classes. -/
structure Num (T : List UInt8) (K : Nat → Nat) (S : SS) (m R : Nat) : Prop where
  stk : S.ps = []
  zero : S.laid = 0 ∧ S.first = 0 ∧ S.second = 0
  ord : SortH T (bytesBy S.reach) S.ord
  num : NumAt K S.ord S.asd S.made
  made : S.made ≤ T.length
  rem : Rem T S.reach m
  left : R + S.made = T.length + each T.length * m
theorem costs_app (ps : List Part) (p : Part) : costs (ps ++ [p]) = costs ps + p.cost := by unfold costs; simp
theorem runAll_rev (K : Nat → Nat) (ps : List Part) (p q : Part) (A : List Nat) : runAll K (p :: (ps ++ [q]).reverse) A = runAll K (q :: ps.reverse) (opP K p A) := by rw [List.reverse_append]; rfl
/-- The part on top is done: the one beneath comes on top, or classes are made. -/
theorem Srt.pop {T : List UInt8} {K : Nat → Nat} {S S' : SS} {ps : List Part} {p : Part} {A : List Nat} {m R R' : Nat} (h : Srt T K S ps p A m R) (hps : S'.ps = ps) (hz : S'.laid = 0 ∧ S'.first = 0 ∧ S'.second = 0) (hr : S'.reach = S.reach) (hm : S'.made = S.made)
    (ho : S'.ord = opP K p A) (hR2 : R' = costs ps + T.length + each T.length * m) :
    (∃ ps2 q, ps = ps2 ++ [q] ∧ Srt T K S' ps2 q (opP K p A) m R') ∨ (ps = [] ∧ Num T K S' m R') := by
  obtain ⟨z1, z2, z3⟩ := hz
  have hf := h.fits p (by simp)
  have hpl : (opP K p A).Perm A := op_perm hf.1 (by rw [perm_len h.perm]; exact hf.2.1)
  rcases List.eq_nil_or_concat ps with rfl | ⟨ps2, q, rfl⟩
  · right
    refine ⟨rfl, hps, ⟨z1, z2, z3⟩, ?_, ?_, ?_, by rw [hr]; exact h.rem, ?_⟩
    · rw [hr, ho]
      exact h.goal
    · rw [hm, h.made]
      exact NumAt.start _ _ _
    · rw [hm, h.made]
      exact Nat.zero_le _
    · rw [hm, h.made, hR2]
      simp [costs]
  · left
    rw [List.concat_eq_append] at *
    refine ⟨ps2, q, rfl, hps, by rw [hm, h.made], hpl.trans h.perm, ?_, by rw [hr]; exact h.rem, fun x hx => h.fits x (List.mem_append_left _ hx), ?_, ?_⟩
    · rw [hr]
      have := h.goal
      rw [runAll_rev] at this
      exact this
    · cases hb : q.begun with
      | false => exact Or.inl ⟨hb, z1, z2, z3, ho⟩
      | true =>
        refine Or.inr ⟨hb, by rw [z2, z3]; exact MrgAt.start _ _ _, by rw [z1]; exact Nat.zero_le _, by rw [z2, z3]; intro h; omega, ?_, by rw [z1]; intro i hi; omega⟩
        rw [ho, z2, z3]
        simp
    · rw [hR2, z1, z2, z3]
      omega
/-- A part of fewer than two places is begun, and done. -/
theorem Srt.small {T : List UInt8} {K : Nat → Nat} {S S' : SS} {ps : List Part} {p : Part} {A : List Nat} {m R : Nat} (h : Srt T K S ps p A m R) (hb : p.begun = false) (hs : p.hi - p.lo < 2) (hps : S'.ps = ps) (hz : S'.laid = 0 ∧ S'.first = 0 ∧ S'.second = 0) (hr : S'.reach = S.reach) (hm : S'.made = S.made) (ho : S'.ord = S.ord) :
    1 ≤ R ∧ ((∃ ps2 q, ps = ps2 ++ [q] ∧ Srt T K S' ps2 q (opP K p A) m (R - 1)) ∨ (ps = [] ∧ Num T K S' m (R - 1))) := by
  have hf := h.fits p (by simp)
  have hl := h.left
  rcases h.top with ⟨_, h1, h2, h3, h4⟩ | ⟨h0, _⟩
  · have hc : p.cost = 1 := by unfold Part.cost; rw [hb]; simp only [Bool.false_eq_true, if_false]; exact passS_small hs
    rw [costs_app, hc, h1, h2, h3] at hl
    have hop : opP K p A = A := by
      obtain ⟨lo, hi, b⟩ := p
      simp only at hb hs hf
      subst hb
      exact op_small hf.1 (by rw [perm_len h.perm]; exact hf.2.1) hs
    refine ⟨by omega, h.pop hps hz hr hm (by rw [ho, h4, hop]) (by omega)⟩
  · rw [hb] at h0; cases h0
/-- A part is begun: its halves come on top. -/
theorem Srt.halves {T : List UInt8} {K : Nat → Nat} {S S' : SS} {ps : List Part} {p : Part} {A : List Nat} {m R : Nat} (h : Srt T K S ps p A m R) (hb : p.begun = false) (hs : 2 ≤ p.hi - p.lo) (hps : S'.ps = ps ++ [⟨p.lo, p.hi, true⟩] ++ [⟨p.mid, p.hi, false⟩] ++ [⟨p.lo, p.mid, false⟩]) (hz : S'.laid = S.laid ∧ S'.first = S.first ∧ S'.second = S.second) (hr : S'.reach = S.reach) (hm : S'.made = S.made) (ho : S'.ord = S.ord) :
    1 ≤ R ∧ Srt T K S' (ps ++ [⟨p.lo, p.hi, true⟩] ++ [⟨p.mid, p.hi, false⟩]) ⟨p.lo, p.mid, false⟩ A m (R - 1) := by
  obtain ⟨lo, hi, b⟩ := p
  simp only at hb hs hps ⊢
  subst hb
  have hf := h.fits ⟨lo, hi, false⟩ (by simp)
  have hmid := mid_half lo hi false hf.1
  have hf1 : lo ≤ hi := hf.1
  have hf2 : hi ≤ T.length := hf.2.1
  have hl := h.left
  rcases h.top with ⟨_, h1, h2, h3, h4⟩ | ⟨h0, _⟩
  · have hc : (⟨lo, hi, false⟩ : Part).cost = 1 + passS ((hi - lo) / 2) + passS ((hi - lo) - (hi - lo) / 2) + (hi - lo) / 2 + (hi - lo) := by
      unfold Part.cost
      simp only [Bool.false_eq_true, if_false]
      exact passS_big hs
    rw [costs_app, hc, h1, h2, h3] at hl
    rw [hmid] at hps ⊢
    refine ⟨by omega, hps, by rw [hm, h.made], h.perm, ?_, by rw [hr]; exact h.rem, ?_, Or.inl ⟨rfl, by rw [hz.1, h1], by rw [hz.2.1, h2], by rw [hz.2.2, h3], by rw [ho, h4]⟩, ?_⟩
    · rw [hr, runAll_rev, runAll_cons, List.reverse_append]
      show SortH T _ (runAll K ps.reverse (opP K ⟨lo, hi, true⟩ (opP K ⟨lo + (hi - lo) / 2, hi, false⟩ (opP K ⟨lo, lo + (hi - lo) / 2, false⟩ A))))
      rw [op_halves (by omega) (by rw [perm_len h.perm]; exact hf2)]
      exact h.goal
    · intro q hq
      simp only [List.mem_append, List.mem_singleton] at hq
      rcases hq with ((hq | rfl) | rfl) | rfl
      · exact h.fits q (List.mem_append_left _ hq)
      · exact ⟨hf1, hf2, fun _ => by show lo + 2 ≤ hi; omega⟩
      · exact ⟨by show lo + (hi - lo) / 2 ≤ hi; omega, hf2, fun e => by cases e⟩
      · exact ⟨by show lo ≤ lo + (hi - lo) / 2; omega, by show lo + (hi - lo) / 2 ≤ T.length; omega, fun e => by cases e⟩
    · rw [hz.1, hz.2.1, hz.2.2, h1, h2, h3, costs_app, costs_app, costs_app]
      have c1 : (⟨lo, hi, true⟩ : Part).cost = (hi - lo) / 2 + (hi - lo) := rfl
      have c2 : (⟨lo + (hi - lo) / 2, hi, false⟩ : Part).cost = passS ((hi - lo) - (hi - lo) / 2) := by show passS (hi - (lo + (hi - lo) / 2)) = _; congr 1; omega
      have c3 : (⟨lo, lo + (hi - lo) / 2, false⟩ : Part).cost = passS ((hi - lo) / 2) := by show passS (lo + (hi - lo) / 2 - lo) = _; congr 1; omega
      rw [c1, c2, c3]
      omega
  · cases h0
end SrtM
end Go.Proofs.Ytglpbianmbjoeaa
namespace Go.Proofs.Ytglpbianmbjoeaa
namespace SrtM
open Go.RowKit BwtM
set_option linter.unusedVariables false

theorem getD_take {X : List Nat} {m j : Nat} (h : j < m) : (X.take m).getD j 0 = X.getD j 0 := by
  rw [List.getD_eq_getElem?_getD, List.getElem?_take_of_lt h, List.getD_eq_getElem?_getD]
theorem getD_drop (X : List Nat) (m j : Nat) : (X.drop m).getD j 0 = X.getD (m + j) 0 := by
  rw [List.getD_eq_getElem?_getD, List.getElem?_drop, List.getD_eq_getElem?_getD]
theorem getD_app_right {X Y : List Nat} {j : Nat} (h : X.length ≤ j) : (X ++ Y).getD j 0 = Y.getD (j - X.length) 0 := by
  rw [List.getD_eq_getElem?_getD, List.getElem?_append_right h, List.getD_eq_getElem?_getD]
section
variable {T : List UInt8} {K : Nat → Nat} {S S' : SS} {ps : List Part} {p : Part} {A : List Nat} {m R : Nat}
theorem Srt.fit (h : Srt T K S ps p A m R) : p.lo ≤ p.mid ∧ p.mid ≤ p.hi ∧ p.hi ≤ T.length ∧ p.mid = p.lo + (p.hi - p.lo) / 2 ∧ A.length = T.length := by
  have hf := h.fits p (by simp)
  have hm : p.mid = p.lo + (p.hi - p.lo) / 2 := mid_half p.lo p.hi p.begun hf.1
  have := hf.1
  have := hf.2.1
  exact ⟨by omega, by omega, hf.2.1, hm, perm_len h.perm⟩
theorem Srt.segX_len (h : Srt T K S ps p A m R) : (segX A p).length = p.mid - p.lo := by
  have := h.fit
  unfold segX
  rw [List.length_take, List.length_drop]
  omega
theorem Srt.segY_len (h : Srt T K S ps p A m R) : (segY A p).length = p.hi - p.mid := by
  have := h.fit
  unfold segY
  rw [List.length_take, List.length_drop]
  omega
theorem Srt.segX_get (h : Srt T K S ps p A m R) {i : Nat} (hi : i < p.mid - p.lo) : (segX A p).getD i 0 = A.getD (p.lo + i) 0 := by
  unfold segX
  rw [getD_take hi, getD_drop]
theorem Srt.segY_get (h : Srt T K S ps p A m R) {i : Nat} (hi : i < p.hi - p.mid) : (segY A p).getD i 0 = A.getD (p.mid + i) 0 := by
  unfold segY
  rw [getD_take hi, getD_drop]
theorem Srt.lt (h : Srt T K S ps p A m R) {i : Nat} (hi : i < T.length) : A.getD i 0 < T.length := perm_getD h.perm hi
/-- What is told of a part that was begun. -/
theorem Srt.on (h : Srt T K S ps p A m R) (hb : p.begun = true) : MrgAt K (segX A p) (segY A p) S.first S.second ∧ S.laid ≤ p.mid - p.lo ∧ (0 < S.first + S.second → S.laid = p.mid - p.lo) ∧
    S.ord = A.take p.lo ++ (mrg K (segX A p) (segY A p)).take (S.first + S.second) ++ A.drop (p.lo + (S.first + S.second)) ∧ ∀ i, i < S.laid → S.asd.getD i 0 = A.getD (p.lo + i) 0 := by
  rcases h.top with ⟨h0, _⟩ | ⟨_, h1⟩
  · rw [hb] at h0; cases h0
  · exact h1
theorem Srt.bounds (h : Srt T K S ps p A m R) (hb : p.begun = true) : S.first ≤ p.mid - p.lo ∧ S.second ≤ p.hi - p.mid := by
  have h1 := (h.on hb).1
  have a := h1.fl
  have b := h1.sl
  rw [h.segX_len] at a
  rw [h.segY_len] at b
  exact ⟨a, b⟩
theorem mrg_seg_len (h : Srt T K S ps p A m R) : (mrg K (segX A p) (segY A p)).length = p.hi - p.lo := by
  have := h.fit
  rw [mrg_length, h.segX_len, h.segY_len]
  omega
/-- Places ahead of which nothing was put are as they were. -/
theorem Srt.ord_get (h : Srt T K S ps p A m R) (hb : p.begun = true) {i : Nat} (hi : p.lo + (S.first + S.second) ≤ i) : S.ord.getD i 0 = A.getD i 0 := by
  have hf := h.fit
  have hbd := h.bounds hb
  have hl := mrg_seg_len h
  have hle : (A.take p.lo ++ (mrg K (segX A p) (segY A p)).take (S.first + S.second)).length = p.lo + (S.first + S.second) := by
    rw [List.length_append, List.length_take, List.length_take, hl]
    omega
  rw [(h.on hb).2.2.2.1, getD_app_right (by rw [hle]; exact hi), hle, getD_drop]
  congr 1
  omega
theorem Srt.ord_len (h : Srt T K S ps p A m R) : S.ord.length = T.length := by
  have hf := h.fit
  have hl := mrg_seg_len h
  rcases h.top with ⟨_, _, _, _, h4⟩ | ⟨hb, h1, _, _, h4, _⟩
  · rw [h4, hf.2.2.2.2]
  · have a := h1.fl
    have b := h1.sl
    rw [h.segX_len] at a
    rw [h.segY_len] at b
    rw [h4, List.length_append, List.length_append, List.length_take, List.length_take, List.length_drop, hl]
    omega
theorem Srt.cost_on (h : Srt T K S ps p A m R) (hb : p.begun = true) : p.cost = (p.mid - p.lo) + (p.hi - p.lo) := by
  have := h.fit
  unfold Part.cost
  rw [hb]
  simp only [if_true]
  omega
/-- Places are laid aside. -/
theorem Srt.lay (h : Srt T K S ps p A m R) (hb : p.begun = true) (g : Nat) (hg : S.laid + g ≤ p.mid - p.lo) (hps : S'.ps = S.ps) (hz : S'.laid = S.laid + g ∧ S'.first = S.first ∧ S'.second = S.second) (hr : S'.reach = S.reach) (hm : S'.made = S.made) (ho : S'.ord = S.ord)
    (ha : ∀ i, i < S.laid → S'.asd.getD i 0 = S.asd.getD i 0) (hn : ∀ i, S.laid ≤ i → i < S.laid + g → S'.asd.getD i 0 = S.ord.getD (p.lo + i) 0) : g ≤ R ∧ Srt T K S' ps p A m (R - g) := by
  obtain ⟨h1, h2, h3, h4, h5⟩ := h.on hb
  have hbd := h.bounds hb
  have hf := h.fit
  have hl := h.left
  rw [costs_app, h.cost_on hb] at hl
  refine ⟨by omega, by rw [hps, h.stk], by rw [hm, h.made], h.perm, by rw [hr]; exact h.goal, by rw [hr]; exact h.rem, h.fits, Or.inr ⟨hb, by rw [hz.2.1, hz.2.2]; exact h1, by rw [hz.1]; exact hg, ?_, by rw [ho, hz.2.1, hz.2.2]; exact h4, ?_⟩, by rw [hz.1, hz.2.1, hz.2.2, costs_app, h.cost_on hb]; omega⟩
  · rw [hz.1, hz.2.1, hz.2.2]
    intro hp
    have := h3 hp
    omega
  · rw [hz.1]
    intro i hi
    rcases Nat.lt_or_ge i S.laid with c | c
    · rw [ha i c, h5 i c]
    · rw [hn i c hi]
      refine h.ord_get hb ?_
      by_cases e : 0 < S.first + S.second
      · have := h3 e; omega
      · omega
theorem set_mid {A M : List Nat} {lo j : Nat} (h1 : lo + j < A.length) (h2 : j < M.length) : (A.take lo ++ M.take j ++ A.drop (lo + j)).set (lo + j) (M.getD j 0) = A.take lo ++ M.take (j + 1) ++ A.drop (lo + (j + 1)) := by
  have hl : (A.take lo ++ M.take j).length = lo + j := by rw [List.length_append, List.length_take, List.length_take]; omega
  rw [List.set_append_right _ _ (by rw [hl]; exact Nat.le_refl _), hl, Nat.sub_self, List.drop_eq_getElem_cons h1, List.set_cons_zero, List.take_succ_eq_append_getElem h2]
  rw [List.getD_eq_getElem?_getD, List.getElem?_eq_getElem h2, Nat.add_assoc]
  show _ ++ M[j] :: _ = _
  rw [List.append_assoc, List.append_assoc, List.append_assoc]
  rfl
/-- A place of the first half is put. -/
theorem Srt.first (h : Srt T K S ps p A m R) (hb : p.begun = true) (hlaid : S.laid = p.mid - p.lo) (hf1 : S.first < p.mid - p.lo) (hc : S.second = p.hi - p.mid ∨ K (S.asd.getD S.first 0) ≤ K (S.ord.getD (p.mid + S.second) 0))
    (hps : S'.ps = S.ps) (hz : S'.laid = S.laid ∧ S'.first = S.first + 1 ∧ S'.second = S.second) (hr : S'.reach = S.reach) (hm : S'.made = S.made) (ho : S'.ord = S.ord.set (p.lo + S.first + S.second) (S.asd.getD S.first 0)) (ha : S'.asd = S.asd) : 1 ≤ R ∧ Srt T K S' ps p A m (R - 1) := by
  obtain ⟨h1, h2, h3, h4, h5⟩ := h.on hb
  have hbd := h.bounds hb
  have hf := h.fit
  have hl := h.left
  rw [costs_app, h.cost_on hb] at hl
  have hx : (segX A p).getD S.first 0 = S.asd.getD S.first 0 := by rw [h.segX_get hf1, h5 _ (by omega)]
  have hstep := h1.first (by rw [h.segX_len]; exact hf1) (by
    rw [h.segY_len]
    by_cases e : S.second = p.hi - p.mid
    · exact Or.inl e
    · right
      rw [hx, h.segY_get (by omega), ← h.ord_get hb (by omega)]
      exact hc.resolve_left e)
  have hml := mrg_seg_len h
  refine ⟨by omega, by rw [hps, h.stk], by rw [hm, h.made], h.perm, by rw [hr]; exact h.goal, by rw [hr]; exact h.rem, h.fits, Or.inr ⟨hb, by rw [hz.2.1, hz.2.2]; exact hstep.2, by rw [hz.1]; omega, fun _ => by rw [hz.1]; exact hlaid, ?_, by rw [hz.1, ha]; exact h5⟩, by rw [hz.1, hz.2.1, hz.2.2, costs_app, h.cost_on hb]; omega⟩
  rw [ho, h4, hz.2.1, hz.2.2, ← hx, ← hstep.1, Nat.add_assoc p.lo, set_mid (by omega) (by omega), show S.first + 1 + S.second = S.first + S.second + 1 by omega]
/-- A place of the second half is put. -/
theorem Srt.second (h : Srt T K S ps p A m R) (hb : p.begun = true) (hlaid : S.laid = p.mid - p.lo) (hs1 : S.second < p.hi - p.mid) (hc : S.first = p.mid - p.lo ∨ ¬ K (S.asd.getD S.first 0) ≤ K (S.ord.getD (p.mid + S.second) 0))
    (hps : S'.ps = S.ps) (hz : S'.laid = S.laid ∧ S'.first = S.first ∧ S'.second = S.second + 1) (hr : S'.reach = S.reach) (hm : S'.made = S.made) (ho : S'.ord = S.ord.set (p.lo + S.first + S.second) (S.ord.getD (p.mid + S.second) 0)) (ha : S'.asd = S.asd) : 1 ≤ R ∧ Srt T K S' ps p A m (R - 1) := by
  obtain ⟨h1, h2, h3, h4, h5⟩ := h.on hb
  have hbd := h.bounds hb
  have hf := h.fit
  have hl := h.left
  rw [costs_app, h.cost_on hb] at hl
  have hy : (segY A p).getD S.second 0 = S.ord.getD (p.mid + S.second) 0 := by rw [h.segY_get hs1, ← h.ord_get hb (by omega)]
  have hstep := h1.second (by rw [h.segY_len]; exact hs1) (by
    rw [h.segX_len]
    by_cases e : S.first = p.mid - p.lo
    · exact Or.inl e
    · right
      rw [hy, h.segX_get (by omega), ← h5 _ (by omega)]
      exact hc.resolve_left e)
  have hml := mrg_seg_len h
  refine ⟨by omega, by rw [hps, h.stk], by rw [hm, h.made], h.perm, by rw [hr]; exact h.goal, by rw [hr]; exact h.rem, h.fits, Or.inr ⟨hb, by rw [hz.2.1, hz.2.2]; exact hstep.2, by rw [hz.1]; omega, fun _ => by rw [hz.1]; exact hlaid, ?_, by rw [hz.1, ha]; exact h5⟩, by rw [hz.1, hz.2.1, hz.2.2, costs_app, h.cost_on hb]; omega⟩
  rw [ho, h4]
  rw [← h4, ← hy, ← hstep.1, h4, hz.2.1, hz.2.2, Nat.add_assoc p.lo, set_mid (by omega) (by omega), show S.first + (S.second + 1) = S.first + S.second + 1 by omega]
/-- All places of a part are put. -/
theorem Srt.whole (h : Srt T K S ps p A m R) (hb : p.begun = true) (hw : S.first + S.second = p.hi - p.lo) (hps : S'.ps = ps) (hz : S'.laid = 0 ∧ S'.first = 0 ∧ S'.second = 0) (hr : S'.reach = S.reach) (hm : S'.made = S.made) (ho : S'.ord = S.ord) :
    (∃ ps2 q, ps = ps2 ++ [q] ∧ Srt T K S' ps2 q (opP K p A) m R) ∨ (ps = [] ∧ Num T K S' m R) := by
  obtain ⟨h1, h2, h3, h4, h5⟩ := h.on hb
  have hbd := h.bounds hb
  have hf := h.fit
  have hl := h.left
  have hfits := h.fits p (by simp)
  have hbig := hfits.2.2 hb
  have hlaid := h3 (by omega)
  rw [costs_app, h.cost_on hb] at hl
  refine h.pop hps hz hr hm ?_ (by omega)
  rw [ho, h4, hw, show p.lo + (p.hi - p.lo) = p.hi by omega, List.take_of_length_le (l := mrg K (segX A p) (segY A p)) (by rw [mrg_seg_len h]; exact Nat.le_refl _)]
  unfold opP
  rw [hb]
  simp only [if_true]
  rfl
end
/-- The class of one more place is made. -/
theorem Num.next {T : List UInt8} {K : Nat → Nat} {S S' : SS} {m R : Nat} (h : Num T K S m R) (hm : S.made < T.length) (hl : S.asd.length = T.length) (hps : S'.ps = S.ps) (hz : S'.laid = S.laid ∧ S'.first = S.first ∧ S'.second = S.second) (hr : S'.reach = S.reach) (hmd : S'.made = S.made + 1) (ho : S'.ord = S.ord)
    (ha : S'.asd = S.asd.set (S.ord.getD S.made 0) (cN K S.ord S.made)) : 1 ≤ R ∧ Num T K S' m (R - 1) := by
  have hl2 := h.left
  refine ⟨by omega, by rw [hps, h.stk], by rw [hz.1, hz.2.1, hz.2.2]; exact h.zero, by rw [hr, ho]; exact h.ord, ?_, by omega, by rw [hr]; exact h.rem, by omega⟩
  rw [ho, ha, hmd]
  exact h.num.next h.ord.1 hm hl
/-- All classes are made, and it is done. -/
theorem Num.done {T : List UInt8} {K : Nat → Nat} {S : SS} {m R : Nat} (h : Num T K S m R) (hm : S.made = T.length) (he : Ends T S.reach) : R = 0 ∧ IsSorted T S.ord := by
  have hl := h.left
  have hm0 : m = 0 := Rem.one h.rem (.done he)
  refine ⟨by rw [hm, hm0] at hl; omega, sortH_done h.ord ?_⟩
  rcases he with he | he
  · exact Or.inr he
  · left
    unfold bytesBy
    split <;> omega
theorem bytesBy_pos (r : Nat) : 0 < bytesBy r := by unfold bytesBy; split <;> omega
theorem bytesBy_two (r : Nat) : bytesBy (bytesBy r) = bytesBy r + bytesBy r := by
  have h := bytesBy_pos r
  have e : ∀ q, q ≠ 0 → bytesBy q = 2 * q := fun q hq => by unfold bytesBy; rw [if_neg hq]
  rw [e _ (by omega)]
  omega
theorem bytesBy_max (r : Nat) : bytesBy r = max 1 (2 * r) := by
  unfold bytesBy
  split <;> omega
/-- All classes are made, and a further pass begins. -/
theorem Num.pass {T : List UInt8} {K : Nat → Nat} {S S' : SS} {m R : Nat} (h : Num T K S m R) (hK : KeyH T (bytesBy S.reach) K) (hm : S.made = T.length) (he : ¬ Ends T S.reach) (hps : S'.ps = [⟨0, T.length, false⟩]) (hz : S'.laid = S.laid ∧ S'.first = S.first ∧ S'.second = S.second) (hr : S'.reach = bytesBy S.reach) (hmd : S'.made = 0) (ho : S'.ord = S.ord) :
    KeyH T (bytesBy S'.reach) (keyC T.length (bytesBy S.reach) (fun i => S.asd.getD i 0)) ∧ ∃ m2, Srt T (keyC T.length (bytesBy S.reach) (fun i => S.asd.getD i 0)) S' [] ⟨0, T.length, false⟩ S.ord m2 R := by
  have hl := h.left
  have hN := h.num
  rw [hm] at hN
  have hck := classes_key hK h.ord hN
  have hkey : KeyH T (bytesBy S'.reach) (keyC T.length (bytesBy S.reach) (fun i => S.asd.getD i 0)) := by
    rw [hr, bytesBy_two]
    exact hck.1.twice hck.2
  refine ⟨hkey, ?_⟩
  have hrem := h.rem
  cases hrem with
  | done e => exact absurd e he
  | @more _ m2 _ hr2 =>
    refine ⟨m2, hps, hmd, h.ord.1, ?_, by rw [hr]; exact hr2, ?_, Or.inl ⟨rfl, by rw [hz.1]; exact h.zero.1, by rw [hz.2.1]; exact h.zero.2.1, by rw [hz.2.2]; exact h.zero.2.2, ho⟩, ?_⟩
    · show SortH T _ (opP _ ⟨0, T.length, false⟩ S.ord)
      rw [← perm_len h.ord.1, op_whole]
      refine sortH_next (G := bytesBy S.reach) ?_ h.ord.1 (sortH_stable h.ord (H := bytesBy S'.reach) ?_ ?_)
      · rw [perm_len h.ord.1]; exact hkey
      · rw [hr, bytesBy_two]; omega
      · rw [perm_len h.ord.1]; exact hkey
    · intro q hq
      simp only [List.nil_append, List.mem_singleton] at hq
      subst hq
      exact ⟨Nat.zero_le _, Nat.le_refl _, fun e => by cases e⟩
    · rw [hz.1, hz.2.1, hz.2.2, h.zero.1, h.zero.2.1, h.zero.2.2]
      have hc : costs ([] ++ [(⟨0, T.length, false⟩ : Part)]) = passS T.length := by simp [costs, Part.cost]
      rw [hc]
      rw [Nat.mul_add, Nat.mul_one] at hl
      unfold each at hl ⊢
      omega
/-- At first. -/
theorem Srt.start (T : List UInt8) {S : SS} {m : Nat} (hps : S.ps = [⟨0, T.length, false⟩]) (hz : S.laid = 0 ∧ S.first = 0 ∧ S.second = 0) (hr : S.reach = 0) (hmd : S.made = 0) (ho : S.ord = List.range T.length) (hrem : Rem T 0 m) :
    Srt T (bt T) S [] ⟨0, T.length, false⟩ (List.range T.length) m (each T.length * (m + 1)) := by
  refine ⟨hps, hmd, List.Perm.refl _, ?_, by rw [hr]; exact hrem, ?_, Or.inl ⟨rfl, hz.1, hz.2.1, hz.2.2, ho⟩, ?_⟩
  · rw [hr]
    show SortH T 1 (opP _ ⟨0, T.length, false⟩ (List.range T.length))
    have := op_whole (bt T) (List.range T.length)
    rw [List.length_range] at this
    rw [this]
    exact sortH_next (G := 0) (KeyH.first T) (List.Perm.refl _) (range_stable _)
  · intro q hq
    simp only [List.nil_append, List.mem_singleton] at hq
    subst hq
    exact ⟨Nat.zero_le _, Nat.le_refl _, fun e => by cases e⟩
  · rw [hz.1, hz.2.1, hz.2.2]
    have hc : costs ([] ++ [(⟨0, T.length, false⟩ : Part)]) = passS T.length := by simp [costs, Part.cost]
    rw [hc, Nat.mul_add, Nat.mul_one]
    unfold each
    omega
end SrtM
end Go.Proofs.Ytglpbianmbjoeaa
namespace Go.Proofs.Ytglpbianmbjoeaa
open Go.RowKit BwtM
set_option linter.unusedVariables false
theorem bt_get (s : ByteArray) {k : Nat} (h : k < s.size) : (s[k].toNat : Int) = (bt s.data.toList k : Int) := by
  have hl : k < s.data.toList.length := by simpa using h
  rw [bt_in _ hl, List.getD_eq_getElem?_getD, List.getElem?_eq_getElem hl]
  simp [ByteArray.getElem_eq_getElem_data]
theorem txt_len (s : ByteArray) : s.data.toList.length = s.size := by simp
theorem bt_sub (s : ByteArray) {k j : Nat} (h : k = s.size + j) (hj : j < s.size) : bt s.data.toList k = bt s.data.toList j := by
  rw [h, Nat.add_comm, ← txt_len s, bt_turn]
theorem bt_lt (T : List UInt8) (i : Nat) : bt T i < 256 := by unfold bt; exact UInt8.toNat_lt _
def Txt (w : World) (g : Nat) (s : ByteArray) : Prop := w.cell? ⟨g, 0, none⟩ = some (.string s)
theorem Txt.below {w w' : World} {g B : Nat} {s : ByteArray} (h : Txt w g s) (hb : Below B w w') (hg : g < B) : Txt w' g s := (hb.cell (p := ⟨g, 0, none⟩) hg).trans h
def cmpI (a b : Nat) : Int := if a < b then -1 else if b < a then 1 else 0
/-- What Compare tells of two places of a text. -/
theorem isCmp_one {T : List UInt8} {i k : Nat} {c d : Int} (h : IsCmp T i k c) (g : IsCmp T i k d) : c = d := by
  rcases h with ⟨rfl, h⟩ | ⟨rfl, h⟩ | ⟨rfl, h⟩ <;> rcases g with ⟨rfl, g⟩ | ⟨rfl, g⟩ | ⟨rfl, g⟩ <;> first | rfl | exact absurd g h.asym | exact absurd h.symm g.noteq | exact absurd h g.noteq | exact absurd g h.noteq | exact absurd g.symm h.noteq
theorem isCmp_at {T : List UInt8} {i k on : Nat} (ho : on < T.length) (h : eqH T on i k) : (cmpI (bt T (i + on)) (bt T (k + on)) = 0 ∧ eqH T (on + 1) i k) ∨ (cmpI (bt T (i + on)) (bt T (k + on)) ≠ 0 ∧ IsCmp T i k (cmpI (bt T (i + on)) (bt T (k + on)))) := by
  unfold cmpI
  by_cases h1 : bt T (i + on) < bt T (k + on)
  · rw [if_pos h1]
    exact Or.inr ⟨by decide, Or.inl ⟨rfl, on, ho, h, h1⟩⟩
  · rw [if_neg h1]
    by_cases h2 : bt T (k + on) < bt T (i + on)
    · rw [if_pos h2]
      exact Or.inr ⟨by decide, Or.inr (Or.inr ⟨rfl, on, ho, h.symm, h2⟩)⟩
    · rw [if_neg h2]
      exact Or.inl ⟨rfl, h.more (by omega)⟩
end Go.Proofs.Ytglpbianmbjoeaa
namespace Go.Proofs.Ytglpbianmbjoeaa
open Go.RowKit BwtM SrtM PkM
set_option linter.unusedVariables false
def pcells (p : Part) : List Value := [.int .i64 (p.lo : Int), .int .i64 (p.hi : Int), .bool p.begun]
def pflat (ps : List Part) : List Value := ps.flatMap pcells
theorem pflat_app (ps qs : List Part) : pflat (ps ++ qs) = pflat ps ++ pflat qs := by unfold pflat; rw [List.flatMap_append]
theorem pflat_one (p : Part) : pflat [p] = pcells p := by unfold pflat; simp
theorem pflat_len : ∀ (ps : List Part), (pflat ps).length = ps.length * 3
  | [] => rfl
  | p :: ps => by
    have h : pflat (p :: ps) = pcells p ++ pflat ps := rfl
    rw [h, List.length_append, pflat_len ps, List.length_cons]
    have : (pcells p).length = 3 := rfl
    omega
theorem pflat_at {ps : List Part} {p : Part} : (pflat (ps ++ [p]))[ps.length * 3]? = some (.int .i64 (p.lo : Int)) ∧ (pflat (ps ++ [p]))[ps.length * 3 + 1]? = some (.int .i64 (p.hi : Int)) ∧ (pflat (ps ++ [p]))[ps.length * 3 + 2]? = some (.bool p.begun) := by
  rw [pflat_app, pflat_one]
  refine ⟨?_, ?_, ?_⟩ <;> rw [List.getElem?_append_right (by rw [pflat_len]; omega), pflat_len]
  · rw [Nat.sub_self]; rfl
  · rw [show ps.length * 3 + 1 - ps.length * 3 = 1 by omega]; rfl
  · rw [show ps.length * 3 + 2 - ps.length * 3 = 2 by omega]; rfl
/-! ### Keys -/
/-- A closure that tells keys: it only reads the boxes kb and the classes in block bc. -/
def KeyV (w : World) (vk : Value) (kb : List Nat) (bc n : Nat) (C : List Nat) (K : Nat → Nat) : Prop :=
  ∃ (F : FuncId) (caps : Array Value), vk = .func (.func F) #[] caps ∧ (∀ args w, (callFunc F args).run Try.prog w = .ok (.enter F args) w) ∧
    ∀ w', (∀ g ∈ kb, w'.heap[g]? = w.heap[g]?) → RowI w' bc (toI C) → ∀ i, i < n → Calls Try.prog F (#[.int .i64 (i : Int)] ++ caps) w' fun e w'' => e = .returned (.int .i64 (K i : Int)) ∧ ∃ m, w'' = w'.drewN m
theorem KeyV.same {w w1 : World} {vk : Value} {kb : List Nat} {bc n : Nat} {C : List Nat} {K : Nat → Nat} (h : KeyV w vk kb bc n C K) (he : ∀ g ∈ kb, w1.heap[g]? = w.heap[g]?) : KeyV w1 vk kb bc n C K := by
  obtain ⟨F, caps, h1, h2, h3⟩ := h
  exact ⟨F, caps, h1, h2, fun w' h4 h5 => h3 w' (fun g hg => (h4 g hg).trans (he g hg)) h5⟩

/-! ### The sorter -/
structure SoF (F : Nat → Value) (bo bc ba n : Nat) (vk vw : Value) (S : SS) : Prop where
  f0 : F 0 = .slice (some ⟨bo, 0, none⟩) n n
  f1 : F 1 = .slice (some ⟨bc, 0, none⟩) n n
  f2 : F 2 = .slice (some ⟨ba, 0, none⟩) n n
  f3 : F 3 = .int .i64 (S.reach : Int)
  f4 : F 4 = vk
  f5 : F 5 = vw
  f6 : F 6 = .int .i64 (S.laid : Int)
  f7 : F 7 = .int .i64 (S.first : Int)
  f8 : F 8 = .int .i64 (S.second : Int)
  f9 : F 9 = .int .i64 (S.made : Int)
  f10 : F 10 = .int .i64 (S.steps : Int)
section
variable {B : Nat} {w w' : World} {b bo bc ba n : Nat} {vk vw : Value} {kb : List Nat} {S S' : SS}
/-! A field is stored. -/
/-- The boxes of the key are as they were. -/
def KbSame (w w' : World) (kb : List Nat) : Prop := ∀ g ∈ kb, w'.heap[g]? = w.heap[g]?
end
end Go.Proofs.Ytglpbianmbjoeaa
namespace Go.Proofs.Ytglpbianmbjoeaa
theorem list_eq_test (a b : ByteArray) (r : Bool) (h : r = true ↔ a = b) : (a.toList == b.toList) = r := by
  rw [Bool.eq_iff_iff, beq_iff_eq, ByteArray.toList_eq, ByteArray.toList_eq, h]
  constructor
  · intro h
    apply ByteArray.ext
    exact Array.toList_inj.1 h
  · rintro rfl
    rfl
end Go.Proofs.Ytglpbianmbjoeaa
namespace Go.Proofs.Ytglpbianmbjoeaa
open Go.RowKit BwtM
set_option linter.unusedVariables false
/-- The rotation as a text. -/
def rotT (s : ByteArray) (i : Nat) : ByteArray := s.extract i s.size ++ s.extract 0 i
theorem rot_dataD (t : ByteArray) (n : Nat) : (t.extract n t.size).data.toList = t.data.toList.drop n := by
  have e : t.size = t.data.toList.length := rfl
  rw [ByteArray.data_extract, e]
  simp only [Array.toList_extract, List.extract_eq_take_drop]
  rw [List.take_of_length_le (by simp)]
theorem rot_takeD (s : ByteArray) (c : Nat) : (s.extract 0 c).data.toList = s.data.toList.take c := by
  rw [ByteArray.data_extract]
  simp only [Array.toList_extract, List.extract_eq_take_drop, List.drop_zero, Nat.sub_zero]
theorem rotT_data (s : ByteArray) (i : Nat) : (rotT s i).data.toList = rot s.data.toList i := by
  unfold rotT rot
  rw [ByteArray.data_append, Array.toList_append, rot_dataD, rot_takeD]
theorem text_inj {a b : ByteArray} : a = b ↔ a.data.toList = b.data.toList := by
  constructor
  · rintro rfl; rfl
  · intro h
    apply ByteArray.ext
    exact Array.toList_inj.1 h
theorem rotT_eq (s : ByteArray) (i k : Nat) : rotT s i = rotT s k ↔ rot s.data.toList i = rot s.data.toList k := by rw [text_inj, rotT_data, rotT_data]
theorem rotT_self (s : ByteArray) (i : Nat) : rotT s i = s ↔ rot s.data.toList i = s.data.toList := by rw [text_inj, rotT_data]
theorem rotT_size (s : ByteArray) (i : Nat) (h : i ≤ s.size) : (rotT s i).size = s.size := by
  have h1 : (rotT s i).size = (rotT s i).data.toList.length := by simp
  rw [h1, rotT_data, rot_len _ _ (by rw [txt_len]; exact h), txt_len]
theorem bytesLess_iff : ∀ (x y : List UInt8), Op.bytesLess x y = true ↔ lle x y ∧ x ≠ y
  | [], [] => by simp [Op.bytesLess, lle]
  | _ :: _, [] => by simp [Op.bytesLess, lle]
  | [], _ :: _ => by simp [Op.bytesLess, lle]
  | a :: x, b :: y => by
    have ih := bytesLess_iff x y
    simp only [Op.bytesLess, lle, Bool.or_eq_true, Bool.and_eq_true, decide_eq_true_eq, beq_iff_eq, ih, ne_eq, List.cons.injEq, not_and, UInt8.lt_iff_toNat_lt]
    constructor
    · rintro (h | ⟨rfl, h1, h2⟩)
      · exact ⟨Or.inl h, fun e => by subst e; exact absurd h (Nat.lt_irrefl _)⟩
      · exact ⟨Or.inr ⟨rfl, h1⟩, fun _ => h2⟩
    · rintro ⟨h | ⟨rfl, h⟩, h2⟩
      · exact Or.inl h
      · exact Or.inr ⟨rfl, h, h2 rfl⟩
theorem bl_rot (s : ByteArray) (i k : Nat) : Op.bytesLess (rotT s i).toList (rotT s k).toList = true ↔ lle (rot s.data.toList i) (rot s.data.toList k) ∧ rot s.data.toList i ≠ rot s.data.toList k := by
  rw [bytesLess_iff, ByteArray.toList_eq, ByteArray.toList_eq, rotT_data, rotT_data]
set_option maxHeartbeats 1000000 in
theorem rrotation_any (s : ByteArray) (i : Nat) (w : World) (hs : s.size ≤ 1099511627776) (hi : i ≤ s.size) :
    Calls Try.prog 31 #[.string s, .int .i64 (i : Int)] w fun e w' => e = .returned (.string (rotT s i)) ∧ Below w.heap.size w w' := by
  have hR : s.extract i s.size ++ s.extract 0 i = rotT s i := rfl
  have hx1s : (s.extract i s.size).size ≤ s.size := by rw [ByteArray.size_extract]; omega
  have hx2s : (s.extract 0 i).size ≤ s.size := by rw [ByteArray.size_extract]; omega
  have hii : (i : Int) ≤ (s.size : Int) := by omega
  have hi0 : (0 : Int) ≤ (i : Int) := by omega
  go_enter Try.func31, Try.ntmps31
  go_wp2_with fail
  go_quiet (fail)
  go_wp2_with fail
  go_ret
  exact ⟨rfl, rfl, rfl, rfl, Nat.le_refl _, fun _ _ => rfl⟩
theorem isCmp_ahead {T : List UInt8} {i k : Nat} {c : Int} (hi : i ≤ T.length) (hk : k ≤ T.length) (h : IsCmp T i k c) : Ahead T i k ↔ c = -1 ∨ (c = 0 ∧ i < k) := by
  rw [ahead_iff hi hk]
  rcases h with ⟨rfl, h⟩ | ⟨rfl, h⟩ | ⟨rfl, h⟩
  · exact ⟨fun _ => Or.inl rfl, fun _ => Or.inl h⟩
  · constructor
    · rintro (g | ⟨_, g⟩)
      · exact absurd h g.noteq
      · exact Or.inr ⟨rfl, g⟩
    · rintro (g | ⟨_, g⟩)
      · exact absurd g (by decide)
      · exact Or.inr ⟨h, g⟩
  · constructor
    · rintro (g | ⟨g, _⟩)
      · exact absurd g h.asym
      · exact absurd g.symm h.noteq
    · rintro (g | ⟨g, _⟩)
      · exact absurd g (by decide)
      · exact absurd g (by decide)
theorem isCmp_range {T : List UInt8} {i k : Nat} {c : Int} (h : IsCmp T i k c) : c = -1 ∨ c = 0 ∨ c = 1 := by
  rcases h with ⟨rfl, _⟩ | ⟨rfl, _⟩ | ⟨rfl, _⟩ <;> simp
set_option maxHeartbeats 1000000 in
theorem rahead_any (s : ByteArray) (i k : Nat) (r : Bool) (w : World) (hs : s.size ≤ 1099511627776) (hi : i < s.size) (hk : k < s.size) (hr : r = true ↔ Ahead s.data.toList i k) :
    Calls Try.prog 32 #[.string s, .int .i64 (i : Int), .int .i64 (k : Int)] w fun e w' => e = .returned (.bool r) ∧ Below w.heap.size w w' := by
  have H1 := Lib.hid (fun W => rrotation_any s i W hs (Nat.le_of_lt hi))
  have H2 := Lib.hid (fun W => rrotation_any s k W hs (Nat.le_of_lt hk))
  have hbl := bl_rot s i k
  have heq : ∀ b : Bool, (b = true ↔ rot s.data.toList i = rot s.data.toList k) → ((rotT s i).toList == (rotT s k).toList) = b := fun b hb => list_eq_test _ _ _ (by rw [hb, rotT_eq])
  unfold Ahead at hr
  rw [← hbl] at hr
  generalize rotT s i = A at *
  generalize rotT s k = B at *
  cases hl : Op.bytesLess A.toList B.toList with
  | true =>
    obtain rfl : r = true := hr.2 (Or.inl hl)
    clear hr hbl heq hi hk hs
    go_enter Try.func32, Try.ntmps32
    go_wp2_with fail
    refine (H1.out _).mono ?_
    rintro e w1 ⟨rfl, hb1⟩
    have HB1 := Lib.hid hb1
    clear hb1
    go_wp2_with fail
    refine (H2.out _).mono ?_
    rintro e w2 ⟨rfl, hb2⟩
    have HB2 := Lib.hid (HB1.out.trans (hb2.mono HB1.out.size))
    clear hb2
    go_wp2_with fail
    go_ret
    exact ⟨rfl, HB2.out⟩
  | false =>
    rw [hl] at hr
    by_cases he : rot s.data.toList i = rot s.data.toList k
    · have hE := heq true ⟨fun _ => he, fun _ => rfl⟩
      by_cases hik : i < k
      · obtain rfl : r = true := hr.2 (Or.inr ⟨he, hik⟩)
        have h2 : (i : Int) < (k : Int) := by omega
        clear hr hbl heq hi hk hs he hik
        go_enter Try.func32, Try.ntmps32
        go_wp2_with fail
        refine (H1.out _).mono ?_
        rintro e w1 ⟨rfl, hb1⟩
        have HB1 := Lib.hid hb1
        clear hb1
        go_wp2_with fail
        refine (H2.out _).mono ?_
        rintro e w2 ⟨rfl, hb2⟩
        have HB2 := Lib.hid (HB1.out.trans (hb2.mono HB1.out.size))
        clear hb2
        go_wp2_with fail
        go_ret
        exact ⟨rfl, HB2.out⟩
      · obtain rfl : r = false := by
          cases r
          · rfl
          · rcases hr.1 rfl with h | h
            · cases h
            · exact absurd h.2 hik
        have h2 : decide (i < k) = false := by simp only [decide_eq_false_iff_not]; exact hik
        clear hr hbl heq hi hk hs he hik
        go_enter Try.func32, Try.ntmps32
        go_wp2_with fail
        refine (H1.out _).mono ?_
        rintro e w1 ⟨rfl, hb1⟩
        have HB1 := Lib.hid hb1
        clear hb1
        go_wp2_with fail
        refine (H2.out _).mono ?_
        rintro e w2 ⟨rfl, hb2⟩
        have HB2 := Lib.hid (HB1.out.trans (hb2.mono HB1.out.size))
        clear hb2
        go_wp2_with fail
        go_ret
        exact ⟨rfl, HB2.out⟩
    · have hE := heq false ⟨fun e => (by cases e), fun e => absurd e he⟩
      obtain rfl : r = false := by
        cases r
        · rfl
        · rcases hr.1 rfl with h | h
          · cases h
          · exact absurd h.1 he
      clear hr hbl heq hi hk hs he
      go_enter Try.func32, Try.ntmps32
      go_wp2_with fail
      refine (H1.out _).mono ?_
      rintro e w1 ⟨rfl, hb1⟩
      have HB1 := Lib.hid hb1
      clear hb1
      go_wp2_with fail
      refine (H2.out _).mono ?_
      rintro e w2 ⟨rfl, hb2⟩
      have HB2 := Lib.hid (HB1.out.trans (hb2.mono HB1.out.size))
      clear hb2
      go_wp2_with fail
      go_ret
      exact ⟨rfl, HB2.out⟩
end Go.Proofs.Ytglpbianmbjoeaa
namespace Go.Proofs.Ytglpbianmbjoeaa
open Go.RowKit BwtM
set_option linter.unusedVariables false
theorem tmod_nat (n p : Nat) : (n : Int).tmod (p : Int) = ((n % p : Nat) : Int) := by rw [Int.tmod_eq_emod_of_nonneg (by omega)]; omega
theorem tdiv_nat (n p : Nat) : (n : Int).tdiv (p : Int) = ((n / p : Nat) : Int) := by rw [Int.tdiv_eq_ediv_of_nonneg (by omega)]; omega
theorem not_half {T : List UInt8} {n : Nat} (hn : n = T.length) (h0 : 0 < n) (h : ∀ q, 0 < q → q ≤ n / 2 → ¬ (q ∣ n ∧ rot T q = T)) : IsPeriod T n := by
  subst hn
  exact period_all h0 (fun q h1 h2 ⟨h3, h4⟩ => h q h1 (dvd_half h3 h2) ⟨h3, h4⟩)
theorem vie_next {T : List UInt8} {a k on : Nat} (h : Vie T a k on) (ho : on < T.length) (hk : k < T.length) :
    (cmpI (bt T (a + on)) (bt T (k + on)) = 0 ∧ Vie T a k (on + 1)) ∨ (cmpI (bt T (a + on)) (bt T (k + on)) = -1 ∧ Vie T a (k + on + 1) 0) ∨ (cmpI (bt T (a + on)) (bt T (k + on)) = 1 ∧ Vie T (max (a + on + 1) k) (max (a + on + 1) k + 1) 0) := by
  unfold cmpI
  by_cases h1 : bt T (a + on) < bt T (k + on)
  · rw [if_pos h1]
    exact Or.inr (Or.inl ⟨rfl, h.less ho hk h1⟩)
  · rw [if_neg h1]
    by_cases h2 : bt T (k + on) < bt T (a + on)
    · rw [if_pos h2]
      exact Or.inr (Or.inr ⟨rfl, h.greater ho hk h2⟩)
    · rw [if_neg h2]
      exact Or.inl ⟨rfl, h.same (by omega)⟩
end Go.Proofs.Ytglpbianmbjoeaa
namespace Go.Proofs.Ytglpbianmbjoeaa
open Go.RowKit BwtM SrtM PkM
set_option linter.unusedVariables false
def partV (p : Part) : Value := .agg #[.int .i64 (p.lo : Int), .int .i64 (p.hi : Int), .bool p.begun]
/-! ### What is told of nil -/
section
variable {B : Nat} {b bo bc ba n : Nat} {vk vw : Value} {kb : List Nat} {S : SS}
theorem key_eqlIn (d : Nat) (f : Nat) (xs : Array Value) (W : World) : (Op.equalIn (d + 1) 41 (.func (.func f) #[] xs) .nilFunc).run Try.prog W = .ok false W := by
  have hu := Try.underlying41
  simp [Op.equalIn, run_underlying hu]
theorem key_eql (f : Nat) (xs : Array Value) (W : World) : (binOp .eql 41 (.func (.func f) #[] xs) .nilFunc).run Try.prog W = .ok (.bool false) W := by
  simp only [binOp]
  simp [Op.equal, Op.maxDepth, key_eqlIn 9999 f xs W]
theorem nil_eqlIn (d : Nat) (W : World) : (Op.equalIn (d + 1) 41 .nilFunc .nilFunc).run Try.prog W = .ok true W := by
  have hu := Try.underlying41
  simp [Op.equalIn, run_underlying hu]
theorem nil_eql (W : World) : (binOp .eql 41 .nilFunc .nilFunc).run Try.prog W = .ok (.bool true) W := by
  simp only [binOp]
  simp [Op.equal, Op.maxDepth, nil_eqlIn 9999 W]
/-- Behind a part that is taken off. -/
def popS (S : SS) (ps : List Part) : SS := { S with ps := ps, laid := 0, first := 0, second := 0 }
end
end Go.Proofs.Ytglpbianmbjoeaa
namespace Go.Proofs.Ytglpbianmbjoeaa
open Go.RowKit BwtM SrtM PkM
set_option linter.unusedVariables false
section
variable {B : Nat} {b bo bc ba n : Nat} {vk vw : Value} {kb : List Nat} {S : SS}
def passSS (S : SS) (r : Nat) (ps : List Part) : SS := { S with reach := r, ps := ps }
/-- A pushed row: blocks but the old row's are as they were, the new row's is that or a new one. -/
structure Pushed (w w' : World) (v v' : Value) : Prop where
  os : w'.os = w.os
  tape : w'.tape = w.tape
  output : w'.output = w.output
  size : w.heap.size ≤ w'.heap.size
  block : ∀ k, k < w.heap.size → v.ownBlock ≠ some k → w'.heap[k]? = w.heap[k]?
  own : ∀ k, v'.ownBlock = some k → v.ownBlock = some k ∨ w.heap.size ≤ k
end
section
variable {B : Nat} {b bo bc ba n : Nat} {vk vw : Value} {kb : List Nat} {S : SS}
theorem pushed_box {W : World} {v v' : Value} {w' : World} (o : Obj) (hB : Below B (W.alloc o) w') (h1 : ∀ k, k < (W.alloc o).heap.size → v.ownBlock ≠ some k → w'.heap[k]? = (W.alloc o).heap[k]?) (h2 : ∀ k, v'.ownBlock = some k → v.ownBlock = some k ∨ (W.alloc o).heap.size ≤ k) : Pushed W w' v v' := by
  have hs : (W.alloc o).heap.size = W.heap.size + 1 := by simp
  exact ⟨hB.os, hB.tape, hB.output, by have := hB.size; omega, fun k hk hn => (h1 k (by omega) hn).trans (alloc_old hk), fun k hk => (h2 k hk).imp id (fun h => by omega)⟩
end
end Go.Proofs.Ytglpbianmbjoeaa

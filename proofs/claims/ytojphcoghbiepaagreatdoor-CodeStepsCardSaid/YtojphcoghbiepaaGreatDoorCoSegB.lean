/-
  MERGED by seg.py out of: Foot Row Ints Cells Can LenF LenG LenShr Whole CanB CanC CanMathC Bits BitsR.
-/
import Derived.Test.YtojphcoghbiepaaGreatDoorCoSegA
import Derived.Laws.OwnMore
import Derived.Laws.AppendOwnNone
import Derived.StillTailTactics
import Derived.BigRegion
import Derived.BigQuiet
import Derived.IntWalk
import Derived.Deep.RegionLaw
namespace Go.Proofs.YtojphcoghbiepaaGreatDoor
open Go.RowKit

/-- Of what was there only blocks of S may have turned. -/
structure Touch (S : Nat → Prop) (w w' : World) : Prop where
  os : w'.os = w.os
  tape : w'.tape = w.tape
  output : w'.output = w.output
  size : w.heap.size ≤ w'.heap.size
  block : ∀ k, k < w.heap.size → ¬ S k → w'.heap[k]? = w.heap[k]?
namespace Touch
variable {S T : Nat → Prop} {a b c : World}
theorem refl (S : Nat → Prop) (w : World) : Touch S w w := ⟨rfl, rfl, rfl, Nat.le_refl _, fun _ _ _ => rfl⟩
theorem trans (h : Touch S a b) (k : Touch T b c) (hT : ∀ i, T i → S i ∨ a.heap.size ≤ i) : Touch S a c :=
  ⟨k.os.trans h.os, k.tape.trans h.tape, k.output.trans h.output, Nat.le_trans h.size k.size, fun i hi hS =>
    (k.block i (Nat.lt_of_lt_of_le hi h.size) (fun ht => by rcases hT i ht with g | g; exact hS g; omega)).trans (h.block i hi hS)⟩
theorem mono (h : Touch S a b) (hS : ∀ i, S i → T i) : Touch T a b := ⟨h.os, h.tape, h.output, h.size, fun i hi ht => h.block i hi (fun hs => ht (hS i hs))⟩
theorem drew (h : Touch S a b) : Touch S a b.drew := ⟨h.os, h.tape, h.output, h.size, h.block⟩
theorem alloc (h : Touch S a b) (o : Obj) : Touch S a (b.alloc o) :=
  ⟨h.os, h.tape, h.output, by have := h.size; simp; omega, fun i hi hs => (Below.heap_alloc b o i (Nat.lt_of_lt_of_le hi h.size)).trans (h.block i hi hs)⟩
theorem setCell (h : Touch S a b) {p : Addr} (hp : S p.block ∨ a.heap.size ≤ p.block) (v : Value) : Touch S a (b.setCell p v) :=
  ⟨h.os, h.tape, h.output, by simpa [World.setCell] using h.size, fun i hi hs => (heap_setCell_other b p i v (fun e => by rcases hp with g | g; exact hs (e ▸ g); omega)).trans (h.block i hi hs)⟩
theorem grown (h : Touch S a b) {r : Option Nat} (hg : b.grownBy c r) (hr : ∀ i, r = some i → S i ∨ a.heap.size ≤ i) : Touch S a c :=
  ⟨hg.os.trans h.os, hg.tape.trans h.tape, hg.output.trans h.output, Nat.le_trans h.size hg.size, fun i hi hs =>
    (hg.block i (Nat.lt_of_lt_of_le hi h.size) (fun e => by rcases hr i e.symm with g | g; exact hs g; omega)).trans (h.block i hi hs)⟩
theorem ofBelow (h : Below a.heap.size a b) : Touch S a b := ⟨h.os, h.tape, h.output, h.size, fun i hi _ => h.block i hi⟩
theorem below {B : Nat} (h : Touch S a b) (hB : B ≤ a.heap.size) (hS : ∀ i, S i → B ≤ i) : Below B a b :=
  ⟨h.os, h.tape, h.output, h.size, fun i hi => h.block i (by omega) (fun hs => by have := hS i hs; omega)⟩
end Touch
theorem touch_drewN (S : Nat → Prop) (w : World) (n : Nat) : Touch S w (w.drewN n) := ⟨rfl, rfl, rfl, Nat.le_refl _, fun _ _ _ => rfl⟩
theorem touch_cell {b i : Nat} {w0 w : World} {v : Value} (h : Touch (· = b) w0 w) : Touch (· = b) w0 (w.setCell ⟨b, i, none⟩ v) := Touch.setCell (S := (· = b)) (p := ⟨b, i, none⟩) h (Or.inl rfl) v
def u8v (x : UInt8) : Value := .int .u8 (x.toNat : Int)
theorem info5 : (Tryz.prog.info? 5).map (fun i => (i.zero, i.size, i.bytes)) = some (some (.int .u8 0), 1, 1) := by kernel_rfl
/-- What an object with one row of its own may write. -/
def foot (b : Nat) (v : Value) (k : Nat) : Prop := k = b ∨ v.ownBlock = some k
/-- 'append' to a row of the call's own: its block is the old one, or a new one. -/
theorem run_append_own2 {P : Program} (w : World) (base : Nat) (t ty e : TypeId) (i : TypeInfo) (z : Value) (size bytes : Nat) (ht : P.underlying t = some (.slice e)) (hi : P.info? e = some i) (hz : i.zero = some z)
    (hsize : i.size = size) (hby : i.bytes = bytes) (hzs : z.cells.size = size) (hsz : 0 < size)
    (v : Value) (n : Nat) (xs : List Value) (hown : w.ownsRow base e size v n xs)
    (a : Addr) (m c : Nat) (news : List Value) (hl : news.length = m * size) (hnews : ∀ j u, news[j]? = some u → w.cell? (a.add j) = some u) (h1 : ∀ u ∈ news, u.oneCell' = true)
    (h63 : n + m ≤ maxLen) (hbytes : (n + m) * bytes ≤ 140737488355328) (hbase : base ≤ w.heap.size) :
    ∃ v' w', (Builtin.append_ #[t, t] ty #[v, .slice (some a) m c]).run P w = .ok v' w' ∧ w'.ownsRow base e size v' (n + m) (xs ++ news) ∧ w.grownBy w' v.ownBlock ∧
      (∀ k, v'.ownBlock = some k → v.ownBlock = some k ∨ w.heap.size ≤ k) := by
  obtain ⟨v', w', hr, h2, h3, h4⟩ := run_append_own (P := P) w base t ty e i z size bytes ht hi hz hsize hby hzs hsz v n xs hown a m c news hl hnews h1 h63 hbytes hbase
  refine ⟨v', w', hr, h2, h3, fun k hk => ?_⟩
  have hsmall : n + m ≤ 9223372036854775807 := by simp only [maxLen] at h63; omega
  subst hsize
  subst hby
  rcases hown.2 with ⟨rfl, rfl⟩ | ⟨g, cap, cur, rfl, _, hg, hnc, hcm, hcs, htake⟩
  · by_cases hm : m = 0
    · rw [(h4.2 ⟨rfl, hm⟩)] at hk
      simp [Value.ownBlock] at hk
    · have hr2 := run_append_nil (P := P) w t ty e i z ht hi hz a m c news hl hnews (by omega) (by omega) (by have hb := hbytes; simp only [Nat.zero_add] at hb; omega)
      rw [hr] at hr2
      simp only [Result.ok.injEq] at hr2
      rw [hr2.1] at hk
      simp [Value.ownBlock] at hk
      exact Or.inr (by omega)
  · by_cases hroom : n + m ≤ cap
    · have hfit : n * i.size + news.length ≤ cur.size := by rw [hl, hcs, ← Nat.add_mul]; exact Nat.mul_le_mul_right _ hroom
      have hr2 := run_append_room (P := P) w t ty e i ht hi g n cap cur hg a m c news hl hnews h1 hroom hfit
      rw [hr] at hr2
      simp only [Result.ok.injEq] at hr2
      rw [hr2.1] at hk
      exact Or.inl hk
    · have holds : ∀ j u, xs[j]? = some u → w.cell? ((⟨g, 0, none⟩ : Addr).add j) = some u := hown.cells (g := g) rfl
      have hr2 := run_append_grow (P := P) w t ty e i z ht hi hz ⟨g, 0, none⟩ n cap xs hown.1 holds a m c news hl hnews (by omega) (by omega) (growslice_fits (by omega) hbytes)
      rw [hr] at hr2
      simp only [Result.ok.injEq] at hr2
      rw [hr2.1] at hk
      simp [Value.ownBlock] at hk
      exact Or.inr (by omega)
/-- 'append', where an operation of a region that draws its order stands. -/
theorem step_append_own' {P : Program} {ops : Array Oper} {o : Oper} {a : Act} {w : World} {K : Act → World → Prop} {Q : Exit → Act → World → Prop} {E : Prop} (hg : o.guard = none) (s x : Operand) (t : TypeId)
    (ho : o.op = .call { callee := .builtin .append, args := #[s, x], argTypes := #[t, t] })
    (base : Nat) (e : TypeId) (i : TypeInfo) (z : Value) (size bytes : Nat) (ht : P.underlying t = some (.slice e)) (hi : P.info? e = some i) (hz : i.zero = some z)
    (hsize : i.size = size) (hby : i.bytes = bytes) (hzs : z.cells.size = size) (hsz : 0 < size)
    (v : Value) (n : Nat) (xs : List Value) (hs : a.eval s = v) (hown : w.ownsRow base e size v n xs)
    (ad : Addr) (m c : Nat) (news : List Value) (hx : a.eval x = .slice (some ad) m c) (hl : news.length = m * size) (hnews : ∀ j u, news[j]? = some u → w.cell? (ad.add j) = some u) (h1 : ∀ u ∈ news, u.oneCell' = true)
    (h63 : n + m ≤ maxLen) (hbytes : (n + m) * bytes ≤ 140737488355328) (hbase : base ≤ w.heap.size)
    (h : ∀ v' w', w'.ownsRow base e size v' (n + m) (xs ++ news) → w.grownBy w' v.ownBlock → (∀ k, v'.ownBlock = some k → v.ownBlock = some k ∨ w.heap.size ≤ k) → K (a.put o.dst v') w') :
    if Region.wanted o (yielded ops a.tmps) = true then Oper.wp P o a w K Q else E := by
  have hw : Region.wanted o (yielded ops a.tmps) = true := by simp [Region.wanted, hg]
  rw [if_pos hw]
  obtain ⟨v', w', hr, h2, h3, h4⟩ := run_append_own2 (P := P) w base t o.type e i z size bytes ht hi hz hsize hby hzs hsz v n xs hown ad m c news hl hnews h1 h63 hbytes hbase
  unfold Oper.wp execOp
  simp only [ho, resolve, invoke, builtin, Sem.run_bind, Sem.run_pure, Result.andThen_ok, List.map_toArray, List.map_cons, List.map_nil, hs, hx, hr]
  exact h v' w' h2 h3 h4
end Go.Proofs.YtojphcoghbiepaaGreatDoor
namespace Go.Proofs.YtojphcoghbiepaaGreatDoor
open Go.RowKit
theorem iv {a b : Int} {k : IntKind} (h : a = b) : Value.int k a = Value.int k b := by rw [h]
theorem slice_of_own {w : World} {base e size : Nat} {v : Value} {n : Nat} {xs : List Value} (h : w.ownsRow base e size v n xs) : ∃ a cap, v = .slice a n cap := by
  rcases h.2 with ⟨rfl, rfl⟩ | ⟨g, cap, cur, rfl, _⟩
  · exact ⟨none, 0, rfl⟩
  · exact ⟨_, cap, rfl⟩
theorem ownsRow_other {w w' : World} {base e size : Nat} {v : Value} {n : Nat} {xs : List Value} (h : w.ownsRow base e size v n xs) (he : ∀ k, v.ownBlock = some k → w'.heap[k]? = w.heap[k]?) : w'.ownsRow base e size v n xs := by
  refine ⟨h.1, ?_⟩
  rcases h.2 with hn | ⟨g, cap, cur, rfl, hb, hg, r⟩
  · exact Or.inl hn
  · exact Or.inr ⟨g, cap, cur, rfl, hb, (he g rfl).trans hg, r⟩
/-- The cells of a block that was just made. -/
theorem news_new (w : World) (cs : Array Value) (t : TypeId) (n : Nat) (hn : n = w.heap.size) : ∀ (j : Nat) u, cs.toList[j]? = some u → (w.alloc (.cells cs t)).cell? ((⟨n, 0, none⟩ : Addr).add j) = some u := by
  subst hn
  intro j u hj
  rw [Addr.add_lit, cell_of_row _ _ _ _ _ _ (heap_alloc_new w (.cells cs t)), Nat.zero_add]
  simpa using hj
/-- 'string(x)', x a row of bytes of the call's own. -/
theorem conv_row {W : World} {base : Nat} {v : Value} {n : Nat} {l : List UInt8} (h : W.ownsRow base 5 1 v n (l.map u8v)) :
    (convert 82 9 v).run Tryz.prog W = .ok (.string ⟨l.toArray⟩) W := by
  have hl : l.length = n := by simpa using h.1
  rcases h.2 with ⟨rfl, rfl⟩ | ⟨g, cap, cur, rfl, _, hg, _⟩
  · obtain rfl : l = [] := List.eq_nil_of_length_eq_zero hl
    exact run_convert_bytes_nil W 82 5 Tryz.underlying82 Tryz.underlying5 0 0 9 Tryz.underlying9
  · subst hl
    refine run_convert_bytes_back W 82 9 5 ⟨g, 0, none⟩ cap l Tryz.underlying82 Tryz.underlying5 Tryz.underlying9 (fun j hj => ?_)
    rw [Addr.add_lit, Nat.zero_add, h.cellAt j (by omega)]
    simp [hj, u8v]
theorem text_size (a : List UInt8) : (⟨a.toArray⟩ : ByteArray).size = a.length := by show a.toArray.size = _; simp
end Go.Proofs.YtojphcoghbiepaaGreatDoor
namespace Go.Proofs.YtojphcoghbiepaaGreatDoor
open Go.RowKit
set_option linter.unusedVariables false
theorem drewN_add (w : World) (m n : Nat) : (w.drewN m).drewN n = w.drewN (m + n) := by simp [World.drewN, Nat.add_assoc]
theorem below_drewN (w : World) (n : Nat) : Below w.heap.size w (w.drewN n) := ⟨rfl, rfl, rfl, Nat.le_refl _, fun _ _ => rfl⟩
/-- v is a row of the numbers zs. -/
def IsInts (w : World) (v : Value) (zs : List Int) : Prop := ∃ a cap, v = .slice a zs.length cap ∧ ∀ i x, zs[i]? = some x → ∃ b off, a = some ⟨b, off, none⟩ ∧ w.cell? ⟨b, off + i, none⟩ = some (.int .i64 x)
theorem cell_lt {w : World} {p : Addr} {v : Value} (h : w.cell? p = some v) : p.block < w.heap.size := by
  by_cases hlt : p.block < w.heap.size
  · exact hlt
  · exfalso
    unfold World.cell? at h
    rw [Array.getElem?_eq_none (by omega)] at h
    cases h
theorem IsInts.below {w w' : World} {v : Value} {zs : List Int} (h : IsInts w v zs) (hb : Below w.heap.size w w') : IsInts w' v zs := by
  obtain ⟨a, cap, hv, hc⟩ := h
  refine ⟨a, cap, hv, fun i x hx => ?_⟩
  obtain ⟨b, off, ha, hcell⟩ := hc i x hx
  exact ⟨b, off, ha, (hb.cell (cell_lt hcell)).trans hcell⟩
theorem IsInts.nil (w : World) : IsInts w (.slice none 0 0) [] := ⟨none, 0, rfl, fun i x hx => by simp at hx⟩
def iv64 (x : Int) : Value := .int .i64 x
theorem ints_of_row {w : World} {g N cap : Nat} {zs : List Int} {rest : List Value} {t : TypeId} (h : w.heap[g]? = some (.cells (zs.map iv64 ++ rest).toArray t (0, 0))) (hN : N = zs.length) : IsInts w (.slice (some ⟨g, 0, none⟩) N cap) zs := by
  subst hN
  refine ⟨_, cap, rfl, fun i x hx => ⟨g, 0, rfl, ?_⟩⟩
  have hi := (List.getElem?_eq_some_iff.1 hx).1
  rw [cell_of_row _ _ _ _ _ _ h, Nat.zero_add, List.getElem?_toArray, List.getElem?_append_left (by simpa using hi), List.getElem?_map, hx]
  rfl
theorem made_row (n : Nat) : madeCells #[Value.int .i64 0] n = (([] : List Int).map iv64 ++ List.replicate (n - 0) (iv64 0)).toArray := by
  apply Array.toList_inj.1
  rw [toList_madeCells_one]
  rfl
set_option maxHeartbeats 1000000 in
theorem make_ints (n : Nat) (hn : n ≤ 1000000) (W : World) : (Instr.makeSlice 28 (.int .i64 (n : Int)) (.int .i64 (n : Int))).run Tryz.prog W = .ok (.slice (some ⟨W.heap.size, 0, none⟩) n n) (W.alloc (.cells (madeCells #[Value.int .i64 0] n) 3)) := by
  obtain ⟨i0, hi, hz0, hz1, hz2⟩ := info_parts (show (Tryz.prog.info? 3).map (fun i => (i.zero, i.size, i.bytes)) = some (some (.int .i64 0), 1, 8) by kernel_rfl)
  have := run_make (P := Tryz.prog) W 28 3 i0 (.int .i64 0) Tryz.underlying28 hi hz0 .i64 .i64 (n : Int) (n : Int) (by omega) (by omega) (by rw [hz2]; omega) (by omega)
  rw [hz1] at this
  simpa [Value.cells] using this
theorem IsInts.cell {w : World} {v : Value} {zs : List Int} (h : IsInts w v zs) {k : Nat} (hk : k < zs.length) : ∃ b off cap, v = .slice (some ⟨b, off, none⟩) zs.length cap ∧ w.cell? ⟨b, off + k, none⟩ = some (.int .i64 (zs.getD k 0)) := by
  obtain ⟨a, cap, rfl, hc⟩ := h
  obtain ⟨b, off, rfl, hcell⟩ := hc k zs[k] (List.getElem?_eq_getElem hk)
  refine ⟨b, off, cap, rfl, ?_⟩
  rw [hcell, List.getD_eq_getElem?_getD, List.getElem?_eq_getElem hk]
  rfl
theorem ints_of_own {w : World} {base e n : Nat} {v : Value} {zs : List Int} (h : w.ownsRow base e 1 v n (zs.map iv64)) : IsInts w v zs := by
  have hl : zs.length = n := by simpa using h.1
  rcases h.2 with ⟨rfl, h0⟩ | ⟨g, cap, cur, rfl, _, hg, _⟩
  · obtain rfl : zs = [] := List.eq_nil_of_length_eq_zero (by omega)
    exact IsInts.nil w
  · subst hl
    refine ⟨_, cap, rfl, fun i x hx => ⟨g, 0, rfl, ?_⟩⟩
    have hi := (List.getElem?_eq_some_iff.1 hx).1
    rw [Nat.zero_add, h.cellAt i (by omega)]
    rw [List.getElem?_map, hx]
    rfl
theorem info_int : (Tryz.prog.info? 3).map (fun i => (i.zero, i.size, i.bytes)) = some (some (.int .i64 0), 1, 8) := by kernel_rfl
set_option maxRecDepth 100000 in
set_option maxHeartbeats 1000000 in
theorem ints_any (v u : Value) (zs ys : List Int) (r : Bool) (w : World) (hv : IsInts w v zs) (hu : IsInts w u ys) (hr : r = true ↔ zs = ys) (hz1 : zs.length ≤ 9223372036854775807) (hz2 : ys.length ≤ 9223372036854775807) :
    Calls Tryz.prog 20 #[v, u] w fun e w' => e = .returned (.bool r) ∧ ∃ n, w' = w.drewN n := by
  have HV := Lib.hid hv
  have HU := Lib.hid hu
  obtain ⟨a, cap, rfl, _⟩ := hv
  obtain ⟨a2, cap2, rfl, _⟩ := hu
  by_cases hl : zs.length = ys.length
  · have hli : (zs.length : Int) = (ys.length : Int) := by omega
    have HR := Lib.hid hr
    clear hr
    have hne : ((zs.length : Int) != (ys.length : Int)) = false := by rw [bne_eq_false_iff_eq]; exact hli
    go_enter Tryz.func20, Tryz.ntmps20
    go_wp2_with fail
    go_loopw [13] (fun i wr => ∃ k n : Nat, k ≤ zs.length ∧ i = .int .i64 k ∧ wr = w.drewN n ∧ ∀ j, j < k → zs.getD j 0 = ys.getD j 0) (fun i _ => zs.length - (intOf i).toNat)
    case atStart => exact ⟨0, 0, by omega, rfl, rfl, fun j hj => by omega⟩
    case round =>
      obtain ⟨k, n, hk, rfl, rfl, hA⟩ := hrel
      have HA := Lib.hid hA
      clear hA
      by_cases hlk : k < zs.length
      · have hki : (k : Int) < (zs.length : Int) := by omega
        have hki2 : (k : Int) < (ys.length : Int) := by omega
        obtain ⟨b1, o1, k1, he1, c1⟩ := HV.out.cell hlk
        obtain ⟨b2, o2, k2, he2, c2⟩ := HU.out.cell (show k < ys.length by omega)
        simp only [Value.slice.injEq] at he1 he2
        obtain ⟨rfl, _, rfl⟩ := he1
        obtain ⟨rfl, _, rfl⟩ := he2
        obtain ⟨x, hx⟩ : ∃ x, zs.getD k 0 = x := ⟨_, rfl⟩
        obtain ⟨y, hy⟩ : ∃ y, ys.getD k 0 = y := ⟨_, rfl⟩
        rw [hx] at c1
        rw [hy] at c2
        have HX := Lib.hid hx
        have HY := Lib.hid hy
        clear hx hy
        by_cases hxy : x = y
        · subst hxy
          go_wp2_with fail
          go_quiet (fail)
          go_wp2_with fail
          go_roundw
          case rel => exact ⟨k + 1, _, by omega, by go_num, rfl, fun j hj => by
            by_cases e : j = k
            · subst e; rw [HX.out, HY.out]
            · exact HA.out j (by omega)⟩
          case measure => simp [intOf]; omega
        · have hd : (x != y) = true := by rw [bne_iff_ne]; exact hxy
          have hrf : r = false := by
            rw [Bool.eq_false_iff, Ne, HR.out]
            rintro rfl
            exact hxy (HX.out.symm.trans HY.out)
          subst hrf
          clear hxy
          go_wp2_with fail
          go_quiet (fail)
          go_wp2_with fail
          go_ret
          exact ⟨rfl, _, drewN_add _ _ _⟩
      · obtain rfl : k = zs.length := by omega
        have hrt : r = true := by
          rw [HR.out]
          apply List.ext_getElem hl
          intro i h1 h2
          have := HA.out i h1
          rw [List.getD_eq_getElem?_getD, List.getD_eq_getElem?_getD, List.getElem?_eq_getElem h1, List.getElem?_eq_getElem h2] at this
          exact this
        subst hrt
        go_wp2_with fail
        go_ret
        exact ⟨rfl, n, rfl⟩
  · have hne : ((zs.length : Int) != (ys.length : Int)) = true := by rw [bne_iff_ne]; omega
    have hrf : r = false := by
      rw [Bool.eq_false_iff, Ne, hr]
      rintro rfl
      exact hl rfl
    subst hrf
    clear hr
    go_enter Tryz.func20, Tryz.ntmps20
    go_wp2_with fail
    go_ret
    exact ⟨rfl, 0, rfl⟩
/-! ### A row of the call's own -/
/-- v is a row of the numbers zs, in a block of the call's own (from base on). -/
def OwnI (w : World) (base : Nat) (v : Value) (zs : List Int) : Prop := w.ownsRow base 3 1 v zs.length (zs.map iv64)
theorem OwnI.ints {w : World} {base : Nat} {v : Value} {zs : List Int} (h : OwnI w base v zs) : IsInts w v zs := ints_of_own h
theorem OwnI.nil (w : World) (base : Nat) : OwnI w base (.slice none 0 0) [] := World.ownsRow_nil _ _ _ _
theorem OwnI.slice {w : World} {base : Nat} {v : Value} {zs : List Int} (h : OwnI w base v zs) : ∃ a cap, v = .slice a zs.length cap := slice_of_own h
theorem OwnI.alloc {w : World} {base : Nat} {v : Value} {zs : List Int} (h : OwnI w base v zs) (o : Obj) : OwnI (w.alloc o) base v zs := World.ownsRow.alloc h o
theorem OwnI.drewN {w : World} {base : Nat} {v : Value} {zs : List Int} (h : OwnI w base v zs) (n : Nat) : OwnI (w.drewN n) base v zs := h
theorem OwnI.below {w w' : World} {base : Nat} {v : Value} {zs : List Int} (h : OwnI w base v zs) (hb : Below w.heap.size w w') : OwnI w' base v zs :=
  ownsRow_other h fun k hk => hb.block k (World.ownsRow.lt h k hk).2
set_option maxHeartbeats 400000 in
theorem push_int {ops : Array Oper} {rest : List Oper} {o : Oper} {a : Act} {Q : Exit → Act → World → Prop} (W : World) (hgd : o.guard = none) (s x : Operand)
    (ho : o.op = .call { callee := .builtin .append, args := #[s, x], argTypes := #[28, 28] })
    (base : Nat) (v : Value) (zs : List Int) (c : Int) (hown : OwnI W base v zs) (hs : a.eval s = v) (hx : a.eval x = .slice (some ⟨W.heap.size, 0, none⟩) 1 1)
    (hlen : zs.length + 1 ≤ 17592186044416) (hb : base ≤ W.heap.size)
    (h : ∀ v' w', OwnI w' base v' (zs ++ [c]) → Below base W w' → wpList Tryz.prog ops Q rest (a.put o.dst v') w') :
    wpList Tryz.prog ops Q (o :: rest) a (W.alloc (.cells #[.int .i64 c] 3)) := by
  obtain ⟨i0, hi, hz0, hz1, hz2⟩ := info_parts info_int
  refine wpList_append_own _ hgd s x 28 ho base 3 i0 (.int .i64 0) 1 8 Tryz.underlying28 hi hz0 hz1 hz2 rfl (by decide) v zs.length (zs.map iv64) hs (World.ownsRow.alloc hown _) ⟨W.heap.size, 0, none⟩ 1 1 [.int .i64 c] hx rfl ?_ ?_ ?_ ?_ ?_ ?_
  · exact news_new _ _ _ _ rfl
  · intro u hu; simp at hu; subst hu; rfl
  · unfold maxLen; omega
  · omega
  · simp; omega
  · intro v' w' hown' hg _
    refine h v' w' ?_ (Below.grown ((Below.refl base W).alloc hb _) hg (by simp; omega) (fun j hj => (World.ownsRow.lt hown j hj).1))
    unfold OwnI
    rw [List.length_append, List.map_append]
    exact hown'
/-! ### A whole block of numbers -/
/-- Block g is the numbers zs. -/
def RowI (w : World) (g : Nat) (zs : List Int) : Prop := w.heap[g]? = some (.cells (zs.map iv64).toArray 3 (0, 0))
theorem RowI.lt {w : World} {g : Nat} {zs : List Int} (h : RowI w g zs) : g < w.heap.size := (Array.getElem?_eq_some_iff.1 h).1
theorem RowI.below {w w' : World} {g : Nat} {zs : List Int} (h : RowI w g zs) (hb : Below w.heap.size w w') : RowI w' g zs := (hb.block g h.lt).trans h
theorem RowI.other {w w' : World} {g : Nat} {zs : List Int} (h : RowI w g zs) {S : Nat → Prop} (ht : Touch S w w') (hS : ¬ S g) : RowI w' g zs := (ht.block g h.lt hS).trans h
theorem RowI.ints {w : World} {g : Nat} {zs : List Int} (h : RowI w g zs) (N cap : Nat) (hN : N = zs.length) : IsInts w (.slice (some ⟨g, 0, none⟩) N cap) zs :=
  ints_of_row (rest := []) (by rw [List.append_nil]; exact h) hN
theorem RowI.made (w : World) (n : Nat) : RowI (w.alloc (.cells (madeCells #[Value.int .i64 0] n) 3)) w.heap.size (List.replicate n 0) := by
  have := made_row n
  simp only [List.map_nil, List.nil_append, Nat.sub_zero] at this
  unfold RowI
  rw [List.map_replicate, ← this]
  exact heap_alloc_new _ _
theorem RowI.cell {w : World} {g : Nat} {zs : List Int} (h : RowI w g zs) {i : Nat} (hi : i < zs.length) : w.cell? ⟨g, i, none⟩ = some (.int .i64 (zs.getD i 0)) ∧ w.frozen? ⟨g, i, none⟩ = false ∧
    ∀ x : Int, RowI (w.setCell ⟨g, i, none⟩ (.int .i64 x)) g (zs.set i x) := by
  refine ⟨?_, frozen_of_row _ _ _ _ _ h, fun x => ?_⟩
  · rw [cell_of_row _ _ _ _ _ _ h, List.getElem?_toArray, List.getElem?_map, List.getD_eq_getElem?_getD, List.getElem?_eq_getElem hi]
    rfl
  · have := heap_setCell_same w g i _ _ (.int .i64 x) h
    unfold RowI
    rw [this]
    congr 2
    apply Array.toList_inj.1
    rw [Array.toList_setIfInBounds, List.map_set]
    rfl
theorem set_next (l : List Int) (m : Nat) (x : Int) : (l ++ List.replicate (m + 1) 0).set l.length x = l ++ [x] ++ List.replicate m 0 := by
  rw [List.set_append_right _ _ (Nat.le_refl _), Nat.sub_self, List.replicate_succ]
  simp

/-! ### 'append', and which blocks it leaves alone -/
theorem wpList_append_own2 {P : Program} {w : World} {ops : Array Oper} {rest : List Oper} {o : Oper} {a : Act} {Q : Exit → Act → World → Prop} (hgd : o.guard = none) (s x : Operand) (t : TypeId)
    (ho : o.op = .call { callee := .builtin .append, args := #[s, x], argTypes := #[t, t] })
    (base : Nat) (e : TypeId) (i : TypeInfo) (z : Value) (size bytes : Nat) (ht : P.underlying t = some (.slice e)) (hi : P.info? e = some i) (hz : i.zero = some z)
    (hsize : i.size = size) (hby : i.bytes = bytes) (hzs : z.cells.size = size) (hsz : 0 < size)
    (v : Value) (n : Nat) (xs : List Value) (hown : w.ownsRow base e size v n xs) (hs : a.eval s = v)
    (ad : Addr) (m c : Nat) (news : List Value) (hx : a.eval x = .slice (some ad) m c) (hl : news.length = m * size) (hnews : ∀ j u, news[j]? = some u → w.cell? (ad.add j) = some u) (h1 : ∀ u ∈ news, u.oneCell' = true)
    (h63 : n + m ≤ maxLen) (hbytes : (n + m) * bytes ≤ 140737488355328) (hbase : base ≤ w.heap.size)
    (h : ∀ v' w', w'.ownsRow base e size v' (n + m) (xs ++ news) → w.grownBy w' v.ownBlock → (∀ k, v'.ownBlock = some k → v.ownBlock = some k ∨ w.heap.size ≤ k) → wpList P ops Q rest (a.put o.dst v') w') : wpList P ops Q (o :: rest) a w :=
  wpList_plain hgd fun _ hK => by
    obtain ⟨v', w', hr, h2, h3, h4⟩ := run_append_own2 (P := P) w base t o.type e i z size bytes ht hi hz hsize hby hzs hsz v n xs hown ad m c news hl hnews h1 h63 hbytes hbase
    unfold Oper.wp execOp
    simp only [ho, resolve, invoke, builtin, Sem.run_bind, Sem.run_pure, Result.andThen_ok, List.map_toArray, List.map_cons, List.map_nil, hs, hx, hr]
    exact hK _ _ (h v' w' h2 h3 h4)
theorem alloc_old {w : World} {o : Obj} {k : Nat} (hk : k < w.heap.size) : (w.alloc o).heap[k]? = w.heap[k]? := Below.heap_alloc w o k hk
set_option maxHeartbeats 400000 in
theorem push_int2 {ops : Array Oper} {rest : List Oper} {o : Oper} {a : Act} {Q : Exit → Act → World → Prop} (W : World) (hgd : o.guard = none) (s x : Operand)
    (ho : o.op = .call { callee := .builtin .append, args := #[s, x], argTypes := #[28, 28] })
    (base : Nat) (v : Value) (zs : List Int) (c : Int) (hown : OwnI W base v zs) (hs : a.eval s = v) (hx : a.eval x = .slice (some ⟨W.heap.size, 0, none⟩) 1 1)
    (hlen : zs.length + 1 ≤ 17592186044416) (hb : base ≤ W.heap.size)
    (h : ∀ v' w', OwnI w' base v' (zs ++ [c]) → Below base W w' → (∀ k, k < W.heap.size → v.ownBlock ≠ some k → w'.heap[k]? = W.heap[k]?) → (∀ k, v'.ownBlock = some k → v.ownBlock = some k ∨ W.heap.size ≤ k) →
      wpList Tryz.prog ops Q rest (a.put o.dst v') w') :
    wpList Tryz.prog ops Q (o :: rest) a (W.alloc (.cells #[.int .i64 c] 3)) := by
  obtain ⟨i0, hi, hz0, hz1, hz2⟩ := info_parts info_int
  refine wpList_append_own2 hgd s x 28 ho base 3 i0 (.int .i64 0) 1 8 Tryz.underlying28 hi hz0 hz1 hz2 rfl (by decide) v zs.length (zs.map iv64) (World.ownsRow.alloc hown _) hs ⟨W.heap.size, 0, none⟩ 1 1 [.int .i64 c] hx rfl ?_ ?_ ?_ ?_ ?_ ?_
  · exact news_new _ _ _ _ rfl
  · intro u hu; simp at hu; subst hu; rfl
  · unfold maxLen; omega
  · omega
  · simp; omega
  · intro v' w' hown' hg hv
    refine h v' w' ?_ (Below.grown ((Below.refl base W).alloc hb _) hg (by simp; omega) (fun j hj => (World.ownsRow.lt hown j hj).1)) (fun k hk hne => (hg.block k (by simp; omega) (fun e => hne e.symm)).trans (alloc_old hk)) (fun k hk => (hv k hk).imp id (fun h => by simp at h; omega))
    unfold OwnI
    rw [List.length_append, List.map_append]
    exact hown'
theorem OwnI.lower {w : World} {base b2 : Nat} {v : Value} {zs : List Int} (h : OwnI w base v zs) (hb : b2 ≤ base) : OwnI w b2 v zs := by
  refine ⟨h.1, ?_⟩
  rcases h.2 with h2 | ⟨g, cap, cur, rfl, hb2, r⟩
  · exact Or.inl h2
  · exact Or.inr ⟨g, cap, cur, rfl, Nat.le_trans hb hb2, r⟩
theorem OwnI.setRow {w : World} {base : Nat} {v : Value} {zs : List Int} (h : OwnI w base v zs) (g : Nat) (cs : Array Value) (hg : g < base) : OwnI (w.setRow g cs) base v zs :=
  ownsRow_other h fun k hk => setRow_other _ _ k _ (by have := (World.ownsRow.lt h k hk).1; omega)
theorem OwnI.same {w w' : World} {base : Nat} {v : Value} {zs : List Int} (h : OwnI w base v zs) (he : ∀ k, v.ownBlock = some k → w'.heap[k]? = w.heap[k]?) : OwnI w' base v zs := ownsRow_other h he
theorem OwnI.lt {w : World} {base : Nat} {v : Value} {zs : List Int} (h : OwnI w base v zs) : ∀ k, v.ownBlock = some k → base ≤ k ∧ k < w.heap.size := World.ownsRow.lt h
theorem OwnI.lit (w : World) (base : Nat) (hb : base ≤ w.heap.size) : OwnI (w.alloc (.cells #[] 3)) base (.slice (some ⟨w.heap.size, 0, none⟩) 0 0) [] :=
  World.ownsRow_lit w #[] 0 hb (by decide) rfl
set_option maxHeartbeats 400000 in
/-- 'append' of a row that lies anywhere. -/
theorem push_src {ops : Array Oper} {rest : List Oper} {o : Oper} {a : Act} {Q : Exit → Act → World → Prop} (W : World) (hgd : o.guard = none) (s x : Operand)
    (ho : o.op = .call { callee := .builtin .append, args := #[s, x], argTypes := #[28, 28] })
    (base : Nat) (v : Value) (zs : List Int) (b off m c : Nat) (ys : List Int) (hown : OwnI W base v zs) (hsrc : IsInts W (.slice (some ⟨b, off, none⟩) m c) ys) (hs : a.eval s = v) (hx : a.eval x = .slice (some ⟨b, off, none⟩) m c)
    (hlen : zs.length + ys.length ≤ 17592186044416) (hb : base ≤ W.heap.size)
    (h : ∀ v' w', OwnI w' base v' (zs ++ ys) → Below base W w' → wpList Tryz.prog ops Q rest (a.put o.dst v') w') :
    wpList Tryz.prog ops Q (o :: rest) a W := by
  obtain ⟨i0, hi, hz0, hz1, hz2⟩ := info_parts info_int
  obtain ⟨a1, cap1, he, hc⟩ := hsrc
  simp only [Value.slice.injEq] at he
  obtain ⟨rfl, rfl, rfl⟩ := he
  refine wpList_append_own _ hgd s x 28 ho base 3 i0 (.int .i64 0) 1 8 Tryz.underlying28 hi hz0 hz1 hz2 rfl (by decide) v zs.length (zs.map iv64) hs hown ⟨b, off, none⟩ ys.length c (ys.map iv64) hx (by simp) ?_ ?_ ?_ ?_ ?_ ?_
  · intro j u hu
    rw [List.getElem?_map] at hu
    cases hj : ys[j]? with
    | none => rw [hj] at hu; cases hu
    | some y =>
      rw [hj] at hu
      cases hu
      obtain ⟨b', off', e, hcell⟩ := hc j y hj
      simp only [Option.some.injEq, Addr.mk.injEq, and_true] at e
      obtain ⟨rfl, rfl⟩ := e
      rw [Addr.add_lit]
      exact hcell
  · intro u hu; obtain ⟨y, _, rfl⟩ := List.mem_map.1 hu; rfl
  · unfold maxLen; omega
  · omega
  · exact hb
  · intro v' w' hown' hgr _
    refine h v' w' ?_ (Below.grown (Below.refl base W) hgr hb (fun j hj => (World.ownsRow.lt hown j hj).1))
    unfold OwnI
    rw [List.length_append, List.map_append]
    exact hown'
theorem IsInts.alloc {w : World} {v : Value} {zs : List Int} (h : IsInts w v zs) (o : Obj) : IsInts (w.alloc o) v zs := h.below ((Below.refl _ _).alloc (Nat.le_refl _) _)
/-- A part of a row. -/
theorem IsInts.part {w : World} {b off m c : Nat} {zs : List Int} (h : IsInts w (.slice (some ⟨b, off, none⟩) m c) zs) (i n c2 : Nat) (hn : n ≤ m - i) : IsInts w (.slice (some ⟨b, off + i, none⟩) n c2) ((zs.drop i).take n) := by
  obtain ⟨a, cap, he, hc⟩ := h
  simp only [Value.slice.injEq] at he
  obtain ⟨rfl, rfl, rfl⟩ := he
  refine ⟨_, c2, by rw [List.length_take, List.length_drop, Nat.min_eq_left hn], fun j x hx => ⟨b, off + i, rfl, ?_⟩⟩
  have hj := (List.getElem?_eq_some_iff.1 hx).1
  rw [List.getElem?_take, List.getElem?_drop] at hx
  split at hx
  · obtain ⟨b', off', e, hcell⟩ := hc (i + j) x hx
    simp only [Option.some.injEq, Addr.mk.injEq, and_true] at e
    obtain ⟨rfl, rfl⟩ := e
    rw [Nat.add_assoc]
    exact hcell
  · cases hx
end Go.Proofs.YtojphcoghbiepaaGreatDoor
namespace Go.Proofs.YtojphcoghbiepaaGreatDoor
open Go.RowKit
set_option linter.unusedVariables false
/-- One place told anew. -/
def upd (F : Nat → Value) (i : Nat) (v : Value) : Nat → Value := fun k => if k = i then v else F k
theorem upd_same (F : Nat → Value) (i : Nat) (v : Value) : upd F i v i = v := if_pos rfl
theorem upd_ne (F : Nat → Value) {i k : Nat} (v : Value) (h : k ≠ i) : upd F i v k = F k := if_neg h
def cellsF (M : Nat) (F : Nat → Value) : Array Value := ((List.range M).map F).toArray
theorem cellsF_get (M : Nat) (F : Nat → Value) {i : Nat} (hi : i < M) : (cellsF M F)[i]? = some (F i) := by
  unfold cellsF
  rw [List.getElem?_toArray, List.getElem?_map, List.getElem?_range hi]
  rfl
theorem cellsF_set (M : Nat) (F : Nat → Value) (i : Nat) (x : Value) : (cellsF M F).setIfInBounds i x = cellsF M (upd F i x) := by
  apply Array.toList_inj.1
  rw [Array.toList_setIfInBounds]
  show ((List.range M).map F).set i x = (List.range M).map (fun k => if k = i then x else F k)
  apply List.ext_getElem
  · simp
  · intro j h1 h2
    rw [List.getElem_set]
    by_cases e : i = j
    · subst e; simp
    · rw [if_neg e]
      have : ¬ j = i := fun h => e h.symm
      simp [this]
theorem wpList_build_one {P : Program} {ops : Array Oper} {rest : List Oper} {o : Oper} {a : Act} {w : World} {Q : Exit → Act → World → Prop} (hg : o.guard = none) (t : TypeId) (n : Nat) (y : Operand) (ho : o.op = .build t #[(n, y)]) (v : Value) (hy : a.eval y = v) (Z : Array Value)
    (hb : P.built t [(n, v)] = some Z) (h : wpList P ops Q rest (a.put o.dst (.agg Z)) w) : wpList P ops Q (o :: rest) a w := by
  subst hy
  refine wpList_build hg t #[(n, y)] ho ?_ ?_
  · simp [hb]
  · simpa [hb] using h
theorem wpList_build_is {P : Program} {ops : Array Oper} {rest : List Oper} {o : Oper} {a : Act} {w : World} {Q : Exit → Act → World → Prop} (hg : o.guard = none) (t : TypeId) (ho : o.op = .build t #[]) (Z : Array Value)
    (hb : P.built t [] = some Z) (h : wpList P ops Q rest (a.put o.dst (.agg Z)) w) : wpList P ops Q (o :: rest) a w := by
  refine wpList_build hg t #[] ho ?_ ?_
  · simp [hb]
  · simpa [hb] using h
end Go.Proofs.YtojphcoghbiepaaGreatDoor
namespace Go.Proofs.YtojphcoghbiepaaGreatDoor
open Go.RowKit CanM HufM
set_option linter.unusedVariables false
/-- Block b is a code's object, its cells told by F. -/
def Obj838 (w : World) (b : Nat) (F : Nat → Value) : Prop := w.heap[b]? = some (.cells (cellsF 838 F) 215 (0, 0))
theorem Obj838.cell {w : World} {b : Nat} {F : Nat → Value} (h : Obj838 w b F) {i : Nat} (hi : i < 838) : w.cell? ⟨b, i, none⟩ = some (F i) ∧ w.frozen? ⟨b, i, none⟩ = false :=
  ⟨(cell_of_row _ _ _ _ _ _ h).trans (cellsF_get 838 F hi), frozen_of_row _ _ _ _ _ h⟩
theorem Obj838.set {w : World} {b : Nat} {F : Nat → Value} (h : Obj838 w b F) (i : Nat) (x : Value) : Obj838 (w.setCell ⟨b, i, none⟩ x) b (upd F i x) := by
  have := heap_setCell_same w b i _ _ x h
  rw [cellsF_set] at this
  exact this
theorem Obj838.other {w w' : World} {b : Nat} {F : Nat → Value} (h : Obj838 w b F) {S : Nat → Prop} (ht : Touch S w w') (hS : ¬ S b) : Obj838 w' b F :=
  (ht.block b (Array.getElem?_eq_some_iff.1 h).1 hS).trans h
theorem Obj838.drewN {w : World} {b : Nat} {F : Nat → Value} (h : Obj838 w b F) (n : Nat) : Obj838 (w.drewN n) b F := h
/-- How far a code is filled: symbols of fewer than n bits, and of n bits those below i; first codes below k1; ends below k2. -/
structure CF (zs : List Int) (F : Nat → Value) (n i k1 k2 : Nat) : Prop where
  size : F 0 = .int .i64 (zs.length : Int)
  sym : ∀ j, j < zs.length → (ln zs j < n ∨ (ln zs j = n ∧ j < i)) → F (1 + j) = .int .i64 (ln zs j : Int) ∧ F (259 + j) = .int .u32 ((fcod zs (ln zs j) + rank zs (ln zs j) j : Nat) : Int) ∧ F (517 + plc zs j) = .int .i64 (j : Int)
  fst : ∀ m, 1 ≤ m → m < k1 → F (775 + m) = .int .u32 (fcod zs m : Int) ∧ F (796 + m) = .int .i64 (cl zs m : Int)
  end_ : ∀ m, 1 ≤ m → m < k2 → F (817 + m) = .int .u32 (((fcod zs m + rank zs m zs.length) * sz m : Nat) : Int)
theorem CF.first {zs : List Int} {F : Nat → Value} {n k2 : Nat} (h : CF zs F n 0 n k2) (hz : zs.length ≤ 258) (h1 : 1 ≤ n) (h20 : n ≤ 20) (hk2 : k2 ≤ 21) :
    CF zs (upd (upd F (775 + n) (.int .u32 (fcod zs n : Int))) (796 + n) (.int .i64 (cl zs n : Int))) n 0 (n + 1) k2 := by
  obtain ⟨a, b, c, d⟩ := h
  refine ⟨?_, fun j hj hh => ?_, fun m hm hmk => ?_, fun m hm hmk => ?_⟩
  · rw [upd_ne _ _ (by omega), upd_ne _ _ (by omega)]; exact a
  · have hp := plc_bound zs hj
    obtain ⟨b1, b2, b3⟩ := b j hj hh
    rw [upd_ne _ _ (by omega), upd_ne _ _ (by omega), upd_ne _ _ (by omega), upd_ne _ _ (by omega), upd_ne _ _ (by omega), upd_ne _ _ (by omega)]
    exact ⟨b1, b2, b3⟩
  · by_cases e : m = n
    · subst e
      rw [upd_same, upd_ne _ _ (by omega), upd_same]
      exact ⟨rfl, rfl⟩
    · rw [upd_ne _ _ (by omega), upd_ne _ _ (by omega), upd_ne _ _ (by omega), upd_ne _ _ (by omega)]
      exact c m hm (by omega)
  · rw [upd_ne _ _ (by omega), upd_ne _ _ (by omega)]; exact d m hm hmk
theorem CF.push {zs : List Int} {F : Nat → Value} {n i k1 k2 : Nat} (h : CF zs F n i k1 k2) (hz : zs.length ≤ 258) (hi : i < zs.length) (hn : ln zs i = n) (C P : Nat) (hC : C = fcod zs n + rank zs n i) (hP : P = cl zs n + rank zs n i) :
    CF zs (upd (upd (upd F (1 + i) (.int .i64 (n : Int))) (259 + i) (.int .u32 (C : Int))) (517 + P) (.int .i64 (i : Int))) n (i + 1) k1 k2 := by
  obtain ⟨a, b, c, d⟩ := h
  have hPp : P = plc zs i := by unfold plc; rw [hn]; exact hP
  have hpi := plc_bound zs hi
  refine ⟨?_, fun j hj hh => ?_, fun m hm hmk => ?_, fun m hm hmk => ?_⟩
  · rw [upd_ne _ _ (by omega), upd_ne _ _ (by omega), upd_ne _ _ (by omega)]; exact a
  · have hp := plc_bound zs hj
    by_cases e : j = i
    · subst e
      refine ⟨?_, ?_, ?_⟩
      · rw [upd_ne _ _ (by omega), upd_ne _ _ (by omega), upd_same, hn]
      · rw [upd_ne _ _ (by omega), upd_same, hn, hC]
      · rw [hPp, upd_same]
    · obtain ⟨b1, b2, b3⟩ := b j hj (by omega)
      have hne := plc_ne zs hj hi e
      rw [upd_ne _ _ (by omega), upd_ne _ _ (by omega), upd_ne _ _ (by omega), upd_ne _ _ (by omega), upd_ne _ _ (by omega), upd_ne _ _ (by omega), upd_ne _ _ (by omega), upd_ne _ _ (by omega), upd_ne _ _ (by omega)]
      exact ⟨b1, b2, b3⟩
  · rw [upd_ne _ _ (by omega), upd_ne _ _ (by omega), upd_ne _ _ (by omega), upd_ne _ _ (by omega), upd_ne _ _ (by omega), upd_ne _ _ (by omega)]
    exact c m hm hmk
  · rw [upd_ne _ _ (by omega), upd_ne _ _ (by omega), upd_ne _ _ (by omega)]
    exact d m hm hmk
theorem CF.skip {zs : List Int} {F : Nat → Value} {n i k1 k2 : Nat} (h : CF zs F n i k1 k2) (hn : ¬ ln zs i = n) : CF zs F n (i + 1) k1 k2 :=
  ⟨h.size, fun j hj hh => h.sym j hj (by
    rcases hh with h1 | ⟨h1, h2⟩
    · exact Or.inl h1
    · by_cases e : j = i
      · subst e; exact absurd h1 hn
      · exact Or.inr ⟨h1, by omega⟩), h.fst, h.end_⟩
theorem CF.last {zs : List Int} {F : Nat → Value} {n k1 : Nat} (h : CF zs F n zs.length k1 n) (hz : zs.length ≤ 258) (h1 : 1 ≤ n) (h20 : n ≤ 20) (hk1 : k1 ≤ 21) (V : Nat) (hV : V = (fcod zs n + rank zs n zs.length) * sz n) :
    CF zs (upd F (817 + n) (.int .u32 (V : Int))) (n + 1) 0 k1 (n + 1) := by
  obtain ⟨a, b, c, d⟩ := h
  refine ⟨?_, fun j hj hh => ?_, fun m hm hmk => ?_, fun m hm hmk => ?_⟩
  · rw [upd_ne _ _ (by omega)]; exact a
  · have hp := plc_bound zs hj
    obtain ⟨b1, b2, b3⟩ := b j hj (by omega)
    rw [upd_ne _ _ (by omega), upd_ne _ _ (by omega), upd_ne _ _ (by omega)]
    exact ⟨b1, b2, b3⟩
  · rw [upd_ne _ _ (by omega), upd_ne _ _ (by omega)]; exact c m hm hmk
  · by_cases e : m = n
    · subst e; rw [upd_same, hV]
    · rw [upd_ne _ _ (by omega)]; exact d m hm (by omega)
/-- v is the code of a whole code's lengths. -/
def IsCode (w : World) (b : Nat) (zs : List Int) : Prop := ∃ F, Obj838 w b F ∧ CF zs F 21 0 21 21
theorem IsCode.other {w w' : World} {b : Nat} {zs : List Int} (h : IsCode w b zs) {S : Nat → Prop} (ht : Touch S w w') (hS : ¬ S b) : IsCode w' b zs := by
  obtain ⟨F, h1, h2⟩ := h
  exact ⟨F, h1.other ht hS, h2⟩
theorem code_le {zs : List Int} (hs : shr zs = 1048576) {n : Nat} (hn : n ≤ 20) : fcod zs n + rank zs n zs.length ≤ 1048576 := by
  have h1 := fcod_bound zs n hn
  have h2 := sz_pos n
  rw [hs] at h1
  exact Nat.le_trans (Nat.le_mul_of_pos_right _ h2) h1
set_option maxRecDepth 100000 in
set_option maxHeartbeats 4000000 in
theorem fill_any (b : Nat) (v : Value) (zs : List Int) (w0 w : World) (F0 : Nat → Value) (hF : Obj838 w b F0) (h0 : F0 0 = .int .i64 (zs.length : Int)) (hv : IsInts w0 v zs) (hb0 : w0.heap.size ≤ b) (hB : Below w0.heap.size w0 w)
    (hz : zs.length ≤ 258) (hw : ∀ z ∈ zs, 1 ≤ z ∧ z ≤ 20) (hs : shr zs = 1048576) :
    Calls Tryz.prog 162 #[.pointer (some ⟨b, 0, none⟩), v] w fun e w' => e = .returned (.tuple #[]) ∧ IsCode w' b zs ∧ Touch (· = b) w w' := by
  have HV := Lib.hid hv
  have HB0 := Lib.hid hB
  have HW := Lib.hid hw
  have HS := Lib.hid hs
  have HF0 := Lib.hid hF
  obtain ⟨a, cap, rfl, _⟩ := hv
  obtain ⟨N, hN⟩ : ∃ N, zs.length = N := ⟨_, rfl⟩
  have HN := Lib.hid hN
  have hstart : Hid (CF zs F0 1 0 1 1) := Lib.hid ⟨h0, fun j hj hh => by
    have h3 := hw (zs.getD j 0) (by rw [List.getD_eq_getElem?_getD, List.getElem?_eq_getElem hj]; exact List.getElem_mem hj)
    unfold ln at hh
    omega, fun m h1 h2 => by omega, fun m h1 h2 => by omega⟩
  have hc0 : Hid (fcod zs 0 + rank zs 0 zs.length = 0 ∧ cl zs 1 = 0) := Lib.hid ⟨by rw [fcod_zero, rank_zero (fun z h => (hw z h).1)], cl_one (fun z h => (hw z h).1)⟩
  rw [hN] at hz ⊢
  have hgb : Hid (w0.heap.size ≤ b) := Lib.hid hb0
  clear hB hw hs hF h0 hN hb0
  go_enter Tryz.func162, Tryz.ntmps162
  go_wp2_with fail
  go_loopw [4, 5, 6] (fun vp vc vn wr => ∃ (n P C : Nat) (F : Nat → Value), vn = .int .i64 (n : Int) ∧ vp = .int .i64 (P : Int) ∧ vc = .int .u32 (C : Int) ∧ 1 ≤ n ∧ n ≤ 21 ∧ P = cl zs n ∧ C = fcod zs (n - 1) + rank zs (n - 1) N ∧ Obj838 wr b F ∧ CF zs F n 0 n n ∧ Touch (· = b) w wr) (fun _ _ vn _ => 21 - (intOf vn).toNat)
  case atStart => exact ⟨1, 0, 0, F0, rfl, rfl, rfl, by omega, by omega, hc0.out.2.symm, by have := hc0.out.1; rw [HN.out] at this; exact this.symm, HF0.out, hstart.out, Touch.refl _ _⟩
  case round =>
    obtain ⟨n, P, C, F, rfl, rfl, rfl, hn1, hn2, hP, hC, hO, hF, hT⟩ := hrel
    have HO := Lib.hid hO
    have HF := Lib.hid hF
    have HT := Lib.hid hT
    have HP := Lib.hid hP
    have HC := Lib.hid hC
    have hPb : P ≤ 258 := by have := cl_le zs n; rw [HN.out] at this; omega
    have hCb : C ≤ 1048576 := by
      have := code_le HS.out (n := n - 1) (by omega)
      rw [HN.out] at this
      omega
    clear hO hF hT hP hC
    by_cases hn : n ≤ 20
    · have hni : (n : Int) ≤ 20 := by omega
      obtain ⟨A1, hA1⟩ : ∃ A1, 775 + n = A1 := ⟨_, rfl⟩
      obtain ⟨A2, hA2⟩ : ∃ A2, 796 + n = A2 := ⟨_, rfl⟩
      have hn21 : (n : Int) < 21 := by omega
      obtain ⟨c1, f1⟩ := HO.out.cell (i := A1) (by omega)
      obtain ⟨c2, f2⟩ := HO.out.cell (i := A2) (by omega)
      have c3 := fun v => ((HO.out.set A1 v).cell (i := A2) (by omega)).1
      have f3 := fun v => ((HO.out.set A1 v).cell (i := A2) (by omega)).2
      obtain ⟨C2, hC2⟩ : ∃ C2, C * 2 = C2 := ⟨_, rfl⟩
      have hC2I : (C : Int) * 2 = (C2 : Int) := by omega
      have HFC : Hid (C2 = fcod zs n) := Lib.hid (by
        have h1 := fcod_succ zs (n := n - 1) (by omega)
        rw [show n - 1 + 1 = n by omega, HN.out, ← HC.out] at h1
        omega)
      have HO5 : Hid (Obj838 (((wr.setCell ⟨b, A1, none⟩ (.int .u32 (C2 : Int))).setCell ⟨b, A2, none⟩ (.int .i64 (P : Int))).drew) b (upd (upd F A1 (.int .u32 (C2 : Int))) A2 (.int .i64 (P : Int)))) := Lib.hid (((HO.out.set _ _).set _ _).drewN 1)
      have HF5 : Hid (CF zs (upd (upd F A1 (.int .u32 (C2 : Int))) A2 (.int .i64 (P : Int))) n 0 (n + 1) n) := Lib.hid (by
        have := HF.out.first (by rw [HN.out]; exact hz) hn1 hn (by omega)
        rw [hA1, hA2, ← HFC.out, ← HP.out] at this
        exact this)
      have HT5 : Hid (Touch (· = b) w (((wr.setCell ⟨b, A1, none⟩ (.int .u32 (C2 : Int))).setCell ⟨b, A2, none⟩ (.int .i64 (P : Int))).drew)) := Lib.hid (touch_cell (touch_cell HT.out)).drew
      have HA1 := Lib.hid hA1
      have HA2 := Lib.hid hA2
      have hC2b : C2 ≤ 1048576 := by
        have h1 := code_le HS.out (n := n) hn
        have h2 := HFC.out
        omega
      clear hC2
      go_wp2_with fail
      go_region
      generalize (((wr.setCell ⟨b, A1, none⟩ (.int .u32 (C2 : Int))).setCell ⟨b, A2, none⟩ (.int .i64 (P : Int))).drew) = w5 at *
      generalize upd (upd F A1 (.int .u32 (C2 : Int))) A2 (.int .i64 (P : Int)) = F5 at *
      clear c1 f1 c2 f2 c3 f3 hA1 hA2
      go_wp2_with fail
      go_loopw [4, 5, 29] (fun vp vc vj w6 => ∃ (j P' C' : Nat) (F' : Nat → Value), vj = .int .i64 (j : Int) ∧ vp = .int .i64 (P' : Int) ∧ vc = .int .u32 (C' : Int) ∧ j ≤ N ∧ P' = cl zs n + rank zs n j ∧ C' = fcod zs n + rank zs n j ∧ Obj838 w6 b F' ∧ CF zs F' n j (n + 1) n ∧ Touch (· = b) w w6) (fun _ _ vj _ => N - (intOf vj).toNat)
      case atStart => exact ⟨0, P, C2, F5, rfl, rfl, rfl, by omega, by have h1 := HP.out; have : rank zs n 0 = 0 := rfl; omega, by have h1 := HFC.out; have : rank zs n 0 = 0 := rfl; omega, HO5.out, HF5.out, HT5.out⟩
      case round =>
        obtain ⟨j, P', C', F', rfl, rfl, rfl, hj, hP', hC', hO', hF', hT'⟩ := hrel
        have HO' := Lib.hid hO'
        have HF' := Lib.hid hF'
        have HT' := Lib.hid hT'
        have HP' := Lib.hid hP'
        have HC' := Lib.hid hC'
        have hrk := rank_mono zs n j (N - j)
        rw [show j + (N - j) = N by omega] at hrk
        have hcn := cl_succ zs n
        have hcl := cl_le zs (n + 1)
        rw [HN.out] at hcn hcl
        have hPb' : P' ≤ 258 := by omega
        have hCb' : C' ≤ 1048576 := by
          have h1 := code_le HS.out (n := n) hn
          rw [HN.out] at h1
          omega
        clear hO' hF' hT' hP' hC' hrk hcn hcl
        by_cases hlj : j < N
        · have hji : (j : Int) < (N : Int) := by omega
          have hlz : j < zs.length := by rw [HN.out]; exact hlj
          obtain ⟨b1, o1, k1, he1, c1⟩ := HV.out.cell hlz
          rw [HN.out] at he1
          simp only [Value.slice.injEq] at he1
          obtain ⟨rfl, _, rfl⟩ := he1
          have hB6 : Below w0.heap.size w0 wr := HB0.out.trans (HT'.out.below (B := w0.heap.size) HB0.out.size (fun i hi => by have e : i = b := hi; have := hgb.out; omega))
          have c1 := (hB6.cell (cell_lt c1)).trans c1
          have hx2 := HW.out (zs.getD j 0) (by rw [List.getD_eq_getElem?_getD, List.getElem?_eq_getElem hlz]; exact List.getElem_mem hlz)
          obtain ⟨X, hX⟩ : ∃ X, ln zs j = X := ⟨_, rfl⟩
          have hXI : zs.getD j 0 = (X : Int) := by unfold ln at hX; omega
          rw [hXI] at c1
          have HX := Lib.hid hX
          clear hB6 hXI hX
          by_cases hxn : X = n
          · have hxe : ((X : Int) == (n : Int)) = true := by rw [beq_iff_eq]; omega
            have HXN := Lib.hid hxn
            have hxa : X ≤ n := by omega
            have hxb : n ≤ X := by omega
            have hj258 : (j : Int) < 258 := by omega
            have hPlt : P' < 258 := by
              have h1 := plc_bound zs hlz
              unfold plc at h1
              rw [HX.out, hxn, ← HP'.out, HN.out] at h1
              omega
            have hPi : (P' : Int) < 258 := by omega
            obtain ⟨B1, hB1⟩ : ∃ B1, 1 + j = B1 := ⟨_, rfl⟩
            obtain ⟨B2, hB2⟩ : ∃ B2, 259 + j = B2 := ⟨_, rfl⟩
            obtain ⟨B3, hB3⟩ : ∃ B3, 517 + P' = B3 := ⟨_, rfl⟩
            obtain ⟨d1, g1⟩ := HO'.out.cell (i := B1) (by omega)
            obtain ⟨d2, g2⟩ := HO'.out.cell (i := B2) (by omega)
            obtain ⟨d3, g3⟩ := HO'.out.cell (i := B3) (by omega)
            have d4 := fun v => ((HO'.out.set B1 v).cell (i := B2) (by omega)).1
            have g4 := fun v => ((HO'.out.set B1 v).cell (i := B2) (by omega)).2
            have d5 := fun v u => (((HO'.out.set B1 v).set B2 u).cell (i := B3) (by omega)).1
            have g5 := fun v u => (((HO'.out.set B1 v).set B2 u).cell (i := B3) (by omega)).2
            have HB1 := Lib.hid hB1
            have HB2 := Lib.hid hB2
            have HB3 := Lib.hid hB3
            have HO7 : Hid (Obj838 ((((wr.setCell ⟨b, B1, none⟩ (.int .i64 (n : Int))).setCell ⟨b, B2, none⟩ (.int .u32 (C' : Int))).setCell ⟨b, B3, none⟩ (.int .i64 (j : Int))).drew) b (upd (upd (upd F' B1 (.int .i64 (n : Int))) B2 (.int .u32 (C' : Int))) B3 (.int .i64 (j : Int)))) := Lib.hid ((((HO'.out.set _ _).set _ _).set _ _).drewN 1)
            have HT7 : Hid (Touch (· = b) w ((((wr.setCell ⟨b, B1, none⟩ (.int .i64 (n : Int))).setCell ⟨b, B2, none⟩ (.int .u32 (C' : Int))).setCell ⟨b, B3, none⟩ (.int .i64 (j : Int))).drew)) := Lib.hid (touch_cell (touch_cell (touch_cell HT'.out))).drew
            have HF7 : Hid (CF zs (upd (upd (upd F' B1 (.int .i64 (n : Int))) B2 (.int .u32 (C' : Int))) B3 (.int .i64 (j : Int))) n (j + 1) (n + 1) n) := Lib.hid (by
              rw [← hB1, ← hB2, ← hB3]
              exact HF'.out.push (by rw [HN.out]; exact hz) hlz (by rw [HX.out, hxn]) C' P' HC'.out HP'.out)
            have hrs : Hid (rank zs n (j + 1) = rank zs n j + 1) := Lib.hid (by
              have := rank_succ zs n j
              rw [if_pos (show (zs.getD j 0).toNat = n by have := HX.out; unfold ln at this; omega)] at this
              exact this)
            clear hxn
            go_wp2_with fail
            go_region
            generalize ((((wr.setCell ⟨b, B1, none⟩ (.int .i64 (n : Int))).setCell ⟨b, B2, none⟩ (.int .u32 (C' : Int))).setCell ⟨b, B3, none⟩ (.int .i64 (j : Int))).drew) = w7 at *
            generalize upd (upd (upd F' B1 (.int .i64 (n : Int))) B2 (.int .u32 (C' : Int))) B3 (.int .i64 (j : Int)) = F7 at *
            clear d1 g1 d2 g2 d3 g3 d4 g4 d5 g5 hB1 hB2 hB3
            go_wp2_with fail
            go_roundw
            case rel => exact ⟨j + 1, P' + 1, C' + 1, F7, by go_num, by go_num, by go_num, by omega, by have h1 := HP'.out; have h2 := hrs.out; omega, by have h1 := HC'.out; have h2 := hrs.out; omega, HO7.out, HF7.out, HT7.out⟩
            case measure => simp [intOf]; omega
          · have hxe : ((X : Int) == (n : Int)) = false := by rw [beq_eq_false_iff_ne]; omega
            have HF7 : Hid (CF zs F' n (j + 1) (n + 1) n) := Lib.hid (HF'.out.skip (by rw [HX.out]; exact hxn))
            have hrs : Hid (rank zs n (j + 1) = rank zs n j) := Lib.hid (by
              have := rank_succ zs n j
              rw [if_neg (show ¬ (zs.getD j 0).toNat = n by have := HX.out; unfold ln at this; omega)] at this
              exact this)
            go_wp2_with fail
            go_roundw
            case rel => exact ⟨j + 1, P', C', F', by go_num, rfl, rfl, by omega, by have h1 := HP'.out; have h2 := hrs.out; omega, by have h1 := HC'.out; have h2 := hrs.out; omega, HO'.out, HF7.out, HT'.out⟩
            case measure => simp [intOf]; omega
        · have hji : ¬ (j : Int) < (N : Int) := by omega
          obtain rfl : N = j := by omega
          obtain ⟨D1, hD1⟩ : ∃ D1, 817 + n = D1 := ⟨_, rfl⟩
          obtain ⟨d1, g1⟩ := HO'.out.cell (i := D1) (by omega)
          obtain ⟨S, hS⟩ : ∃ S : Nat, 20 - n = S := ⟨_, rfl⟩
          have hSI : (20 : Int) - (n : Int) = (S : Int) := by omega
          have hS0 : ¬ (20 : Int) - (n : Int) < 0 := by omega
          have hSb : S ≤ 20 := by omega
          obtain ⟨V, hV⟩ : ∃ V, C' * 2 ^ S = V := ⟨_, rfl⟩
          have hVb : V ≤ 1048576 := by
            have h1 := fcod_bound zs n hn
            rw [HS.out, HN.out, ← HC'.out] at h1
            unfold sz at h1
            rw [hS, hV] at h1
            exact h1
          have HVV : Hid (V = (fcod zs n + rank zs n zs.length) * sz n) := Lib.hid (by
            rw [HN.out, ← HC'.out]
            unfold sz
            rw [hS, hV])
          have HV2 : Hid ((C' : Int) * 2 ^ S = (V : Int)) := Lib.hid (by rw [← hV]; rw [Int.natCast_mul, Int.natCast_pow]; rfl)
          have HF8 : Hid (CF zs (upd F' D1 (.int .u32 (V : Int))) (n + 1) 0 (n + 1) (n + 1)) := Lib.hid (by
            rw [← hD1]
            have h1 := HF'.out
            rw [← HN.out] at h1
            exact h1.last (by rw [HN.out]; exact hz) hn1 hn (by omega) V HVV.out)
          have hcl : Hid (P' = cl zs (n + 1)) := Lib.hid (by rw [cl_succ, HN.out]; exact HP'.out)
          have HD1 := Lib.hid hD1
          have HVm : (C' : Int) * 2 ^ S % 4294967296 = (V : Int) := by rw [HV2.out]; omega
          have HO8 : Hid (Obj838 ((wr.setCell ⟨b, D1, none⟩ (.int .u32 (V : Int))).drew) b (upd F' D1 (.int .u32 (V : Int)))) := Lib.hid ((HO'.out.set _ _).drewN 1)
          have HT8 : Hid (Touch (· = b) w ((wr.setCell ⟨b, D1, none⟩ (.int .u32 (V : Int))).drew)) := Lib.hid (touch_cell HT'.out).drew
          clear hS hV
          go_wp2_with fail
          go_region
          generalize ((wr.setCell ⟨b, D1, none⟩ (.int .u32 (V : Int))).drew) = w8 at *
          generalize upd F' D1 (.int .u32 (V : Int)) = F8 at *
          clear HVm hD1
          go_wp2_with fail
          go_roundw
          case rel => exact ⟨n + 1, P', C', F8, by go_num, rfl, rfl, by omega, by omega, hcl.out, by rw [Nat.add_sub_cancel]; exact HC'.out, HO8.out, HF8.out, HT8.out⟩
          case measure => simp [intOf]; omega
    · have hni : ¬ (n : Int) ≤ 20 := by omega
      obtain rfl : n = 21 := by omega
      go_wp2_with fail
      go_end0
      exact ⟨rfl, ⟨F, HO.out, HF.out⟩, HT.out⟩
end Go.Proofs.YtojphcoghbiepaaGreatDoor
namespace Go.Proofs.YtojphcoghbiepaaGreatDoor
open Go.RowKit
set_option linter.unusedVariables false
/-- All are from a up to b. -/
def Within (a b : Int) (zs : List Int) : Prop := ∀ z ∈ zs, a ≤ z ∧ z ≤ b
theorem getD_mem {zs : List Int} {k : Nat} (h : k < zs.length) : zs.getD k 0 ∈ zs := by
  rw [List.getD_eq_getElem?_getD, List.getElem?_eq_getElem h]
  exact List.getElem_mem h
theorem within_of {a b : Int} {zs : List Int} (h : ∀ j, j < zs.length → a ≤ zs.getD j 0 ∧ zs.getD j 0 ≤ b) : Within a b zs := fun z hz => by
  obtain ⟨j, hj, rfl⟩ := List.mem_iff_getElem.1 hz
  have := h j hj
  rw [List.getD_eq_getElem?_getD, List.getElem?_eq_getElem hj] at this
  exact this
set_option maxRecDepth 100000 in
set_option maxHeartbeats 1000000 in
theorem areWithin_any (v : Value) (zs : List Int) (a b : Int) (r : Bool) (w : World) (hv : IsInts w v zs) (hr : r = true ↔ Within a b zs) (hz : zs.length ≤ 9223372036854775807) :
    Calls Tryz.prog 250 #[v, .int .i64 a, .int .i64 b] w fun e w' => e = .returned (.bool r) ∧ w' = w := by
  have HV := Lib.hid hv
  have HRR := Lib.hid hr
  obtain ⟨ad, cap, rfl, _⟩ := hv
  clear hr
  go_enter Tryz.func250, Tryz.ntmps250
  go_wp2_with fail
  go_loopw [11] (fun i wr => ∃ k : Nat, k ≤ zs.length ∧ i = .int .i64 k ∧ wr = w ∧ ∀ j, j < k → a ≤ zs.getD j 0 ∧ zs.getD j 0 ≤ b) (fun i _ => zs.length - (intOf i).toNat)
  case atStart => exact ⟨0, by omega, rfl, rfl, fun j hj => by omega⟩
  case round =>
    obtain ⟨k, hk, rfl, rfl, hA⟩ := hrel
    have HA := Lib.hid hA
    clear hA
    by_cases hlk : k < zs.length
    · have hki : (k : Int) < (zs.length : Int) := by omega
      obtain ⟨b1, o1, k1, he1, c1⟩ := HV.out.cell hlk
      simp only [Value.slice.injEq] at he1
      obtain ⟨rfl, _, rfl⟩ := he1
      obtain ⟨x, hx⟩ : ∃ x, zs.getD k 0 = x := ⟨_, rfl⟩
      rw [hx] at c1
      have HX := Lib.hid hx
      clear hx
      by_cases h1 : x < a
      · have hrf : r = false := by
          rw [Bool.eq_false_iff, Ne, HRR.out]
          intro h
          have := h _ (getD_mem hlk)
          rw [HX.out] at this
          omega
        subst hrf
        go_wp2_with fail
        go_ret
        exact ⟨rfl, rfl⟩
      · have hd : decide (x < a) = false := by simp only [decide_eq_false_iff_not]; exact h1
        by_cases h2 : b < x
        · have hrf : r = false := by
            rw [Bool.eq_false_iff, Ne, HRR.out]
            intro h
            have := h _ (getD_mem hlk)
            rw [HX.out] at this
            omega
          subst hrf
          go_wp2_with fail
          go_ret
          exact ⟨rfl, rfl⟩
        · have hd2 : decide (b < x) = false := by simp only [decide_eq_false_iff_not]; exact h2
          go_wp2_with fail
          go_roundw
          case rel => exact ⟨k + 1, by omega, by go_num, (by first | rfl | trivial), fun j hj => by
            by_cases e : j = k
            · subst e; rw [HX.out]; omega
            · exact HA.out j (by omega)⟩
          case measure => simp [intOf]; omega
    · have hki : ¬ (k : Int) < (zs.length : Int) := by omega
      have hrt : r = true := by
        rw [HRR.out]
        exact within_of (fun j hj => HA.out j (by omega))
      subst hrt
      go_wp2_with fail
      go_ret
      exact ⟨rfl, rfl⟩
set_option maxRecDepth 100000 in
set_option maxHeartbeats 1000000 in
theorem may_any (v : Value) (zs : List Int) (a b : Int) (r : Bool) (w : World) (hv : IsInts w v zs) (hr : r = true ↔ Within a b zs) (hz : zs.length ≤ 9223372036854775807) :
    Calls Tryz.prog 167 #[v, .int .i64 a, .int .i64 b] w fun e w' => e = .returned (.bool r) ∧ w' = w := by
  have HV := Lib.hid hv
  have HRR := Lib.hid hr
  obtain ⟨ad, cap, rfl, _⟩ := hv
  clear hr
  go_enter Tryz.func167, Tryz.ntmps167
  go_wp2_with fail
  go_loopw [11] (fun i wr => ∃ k : Nat, k ≤ zs.length ∧ i = .int .i64 k ∧ wr = w ∧ ∀ j, j < k → a ≤ zs.getD j 0 ∧ zs.getD j 0 ≤ b) (fun i _ => zs.length - (intOf i).toNat)
  case atStart => exact ⟨0, by omega, rfl, rfl, fun j hj => by omega⟩
  case round =>
    obtain ⟨k, hk, rfl, rfl, hA⟩ := hrel
    have HA := Lib.hid hA
    clear hA
    by_cases hlk : k < zs.length
    · have hki : (k : Int) < (zs.length : Int) := by omega
      obtain ⟨b1, o1, k1, he1, c1⟩ := HV.out.cell hlk
      simp only [Value.slice.injEq] at he1
      obtain ⟨rfl, _, rfl⟩ := he1
      obtain ⟨x, hx⟩ : ∃ x, zs.getD k 0 = x := ⟨_, rfl⟩
      rw [hx] at c1
      have HX := Lib.hid hx
      clear hx
      by_cases h1 : x < a
      · have hrf : r = false := by
          rw [Bool.eq_false_iff, Ne, HRR.out]
          intro h
          have := h _ (getD_mem hlk)
          rw [HX.out] at this
          omega
        subst hrf
        go_wp2_with fail
        go_ret
        exact ⟨rfl, rfl⟩
      · have hd : decide (x < a) = false := by simp only [decide_eq_false_iff_not]; exact h1
        by_cases h2 : b < x
        · have hrf : r = false := by
            rw [Bool.eq_false_iff, Ne, HRR.out]
            intro h
            have := h _ (getD_mem hlk)
            rw [HX.out] at this
            omega
          subst hrf
          go_wp2_with fail
          go_ret
          exact ⟨rfl, rfl⟩
        · have hd2 : decide (b < x) = false := by simp only [decide_eq_false_iff_not]; exact h2
          go_wp2_with fail
          go_roundw
          case rel => exact ⟨k + 1, by omega, by go_num, (by first | rfl | trivial), fun j hj => by
            by_cases e : j = k
            · subst e; rw [HX.out]; omega
            · exact HA.out j (by omega)⟩
          case measure => simp [intOf]; omega
    · have hki : ¬ (k : Int) < (zs.length : Int) := by omega
      have hrt : r = true := by
        rw [HRR.out]
        exact within_of (fun j hj => HA.out j (by omega))
      subst hrt
      go_wp2_with fail
      go_ret
      exact ⟨rfl, rfl⟩
end Go.Proofs.YtojphcoghbiepaaGreatDoor
namespace Go.Proofs.YtojphcoghbiepaaGreatDoor
open Go.RowKit HufM
set_option linter.unusedVariables false
set_option maxRecDepth 100000 in
set_option maxHeartbeats 2000000 in
theorem halved_any (v : Value) (zs : List Int) (w : World) (hv : IsInts w v zs) (hz : zs.length ≤ 1000000) (hb : ∀ z ∈ zs, z ≤ 9223372036854775807) :
    Calls Tryz.prog 270 #[v] w fun e w' => ∃ r, e = .returned r ∧ IsInts w' r (hvs zs) ∧ Below w.heap.size w w' := by
  have HV := Lib.hid hv
  have HBD := Lib.hid hb
  obtain ⟨a, cap, rfl, _⟩ := hv
  obtain ⟨N, hN⟩ : ∃ N, zs.length = N := ⟨_, rfl⟩
  have HN := Lib.hid hN
  have hmk := make_ints N (by omega) w
  have HR0 := Lib.hid (RowI.made w N)
  have hb0 : Hid (Below w.heap.size w (w.alloc (.cells (madeCells #[Value.int .i64 0] N) 3))) := Lib.hid ((Below.refl _ w).alloc (Nat.le_refl _) _)
  obtain ⟨g, hg⟩ : ∃ g, w.heap.size = g := ⟨_, rfl⟩
  have HG := Lib.hid hg
  rw [hg] at hmk HR0
  rw [hN] at hz ⊢
  clear hb hg hN
  go_enter Tryz.func270, Tryz.ntmps270
  go_wp2_with fail
  generalize w.alloc (.cells (madeCells #[Value.int .i64 0] N) 3) = w1 at *
  go_wp2_with fail
  go_loopw [11] (fun i wr => ∃ k : Nat, k ≤ N ∧ i = .int .i64 k ∧ RowI wr g ((zs.take k).map hv ++ List.replicate (N - k) 0) ∧ Below w.heap.size w wr) (fun i _ => N - (intOf i).toNat)
  case atStart => exact ⟨0, Nat.zero_le _, rfl, by simpa using HR0.out, hb0.out⟩
  case round =>
    obtain ⟨k, hk, rfl, hR, hB⟩ := hrel
    have HR := Lib.hid hR
    have HB := Lib.hid hB
    have hlen : ((zs.take k).map hv).length = k := by rw [List.length_map, List.length_take, HN.out]; omega
    by_cases hlk : k < N
    · have hki : (k : Int) < (N : Int) := by omega
      obtain ⟨b1, o1, k1, he1, c1⟩ := HV.out.cell (show k < zs.length by rw [HN.out]; exact hlk)
      simp only [Value.slice.injEq] at he1
      obtain ⟨rfl, _, rfl⟩ := he1
      have c1 := (HB.out.cell (cell_lt c1)).trans c1
      obtain ⟨x, hx⟩ : ∃ x, zs.getD k 0 = x := ⟨_, rfl⟩
      rw [hx] at c1
      have hxb : x ≤ 9223372036854775807 := by rw [← hx]; exact HBD.out _ (getD_mem (by rw [HN.out]; exact hlk))
      obtain ⟨c2, f2, hset⟩ := RowI.cell hR (i := k) (by rw [List.length_append, hlen, List.length_replicate]; omega)
      generalize ((zs.take k).map hv ++ List.replicate (N - k) 0).getD k 0 = y at c2
      obtain ⟨M, hM⟩ : ∃ M, (if x < 0 then 0 else x) = M := ⟨_, rfl⟩
      have hM0 : 0 ≤ M := by rw [← hM]; split <;> omega
      have hMb : M ≤ 9223372036854775807 := by rw [← hM]; split <;> omega
      have hq : IntKind.i64.wrap (M / 2) = M / 2 := IntWalk.i64_in _ (by omega)
      have hnext : Hid (RowI (wr.setCell ⟨g, k, none⟩ (.int .i64 (M / 2 + 1))) g ((zs.take (k + 1)).map hv ++ List.replicate (N - (k + 1)) 0)) := Lib.hid (by
        have h1 := hset (M / 2 + 1)
        have h2 := set_next ((zs.take k).map hv) (N - (k + 1)) (M / 2 + 1)
        rw [hlen, show N - (k + 1) + 1 = N - k by omega] at h2
        rw [h2] at h1
        have h3 : (zs.take (k + 1)).map hv = (zs.take k).map hv ++ [M / 2 + 1] := by
          rw [List.take_add_one, List.map_append, List.getElem?_eq_getElem (show k < zs.length by rw [HN.out]; exact hlk)]
          congr 1
          have hx2 : zs[k]'(by rw [HN.out]; exact hlk) = x := by rw [← hx, List.getD_eq_getElem?_getD, List.getElem?_eq_getElem (show k < zs.length by rw [HN.out]; exact hlk)]; rfl
          simp only [Option.toList_some, List.map_cons, List.map_nil, hx2]
          unfold hv
          rw [hM]
        rw [h3]
        exact h1)
      have hbn : Hid (Below w.heap.size w (wr.setCell ⟨g, k, none⟩ (.int .i64 (M / 2 + 1)))) := Lib.hid (HB.out.setCell (p := ⟨g, k, none⟩) (by rw [HG.out]; exact Nat.le_refl g) _)
      have HM := Lib.hid hM
      clear hR hB hset hx hM hlen
      go_wp2_with fail
      go_roundw
      case rel => exact ⟨k + 1, by omega, by go_num, by rw [HM.out]; exact hnext.out, by rw [HM.out]; exact hbn.out⟩
      case measure => simp [intOf]; omega
    · have hki : ¬ (k : Int) < (N : Int) := by omega
      obtain rfl : N = k := by omega
      go_wp2_with fail
      go_ret
      have h := HR.out.ints N N (by rw [List.length_append, hlen]; simp)
      have e : (zs.take N).map hv ++ List.replicate (N - N) 0 = hvs zs := by
        rw [Nat.sub_self, List.replicate_zero, List.append_nil, List.take_of_length_le (Nat.le_of_eq HN.out)]
        rfl
      rw [e] at h
      exact ⟨_, rfl, h, HB.out⟩
/-- The greatest one, and 0 at least. -/
def lg (zs : List Int) : Int := zs.foldl (fun m x => if m < x then x else m) 0
theorem lg_take (zs : List Int) {k : Nat} (h : k < zs.length) : lg (zs.take (k + 1)) = if lg (zs.take k) < zs.getD k 0 then zs.getD k 0 else lg (zs.take k) := by
  unfold lg
  rw [List.take_add_one, List.foldl_append, List.getD_eq_getElem?_getD, List.getElem?_eq_getElem h]
  rfl
theorem foldl_mono (zs : List Int) : ∀ m : Int, m ≤ zs.foldl (fun m x => if m < x then x else m) m ∧ (∀ z ∈ zs, z ≤ zs.foldl (fun m x => if m < x then x else m) m) ∧ (zs.foldl (fun m x => if m < x then x else m) m = m ∨ zs.foldl (fun m x => if m < x then x else m) m ∈ zs) := by
  induction zs with
  | nil => intro m; exact ⟨Int.le_refl _, fun z h => (by cases h), Or.inl rfl⟩
  | cons x t ih =>
    intro m
    obtain ⟨h1, h2, h3⟩ := ih (if m < x then x else m)
    simp only [List.foldl_cons]
    have hm : m ≤ (if m < x then x else m) ∧ x ≤ (if m < x then x else m) := by split <;> omega
    refine ⟨by omega, fun z hz => ?_, ?_⟩
    · rcases List.mem_cons.1 hz with rfl | hz
      · omega
      · exact h2 z hz
    · rcases h3 with h | h
      · rw [h]
        split
        · exact Or.inr (List.mem_cons_self ..)
        · exact Or.inl rfl
      · exact Or.inr (List.mem_cons_of_mem _ h)
theorem lg_le {zs : List Int} {b : Int} (h0 : 0 ≤ b) : lg zs ≤ b ↔ ∀ z ∈ zs, z ≤ b := by
  obtain ⟨h1, h2, h3⟩ := foldl_mono zs 0
  constructor
  · intro h z hz
    exact Int.le_trans (h2 z hz) h
  · intro h
    rcases h3 with e | e
    · unfold lg; rw [e]; exact h0
    · exact h _ e
set_option maxRecDepth 100000 in
set_option maxHeartbeats 1000000 in
theorem longest_any (v : Value) (zs : List Int) (w : World) (hv : IsInts w v zs) (hz : zs.length ≤ 9223372036854775807) :
    Calls Tryz.prog 269 #[v] w fun e w' => e = .returned (.int .i64 (lg zs)) ∧ w' = w := by
  have HV := Lib.hid hv
  obtain ⟨ad, cap, rfl, _⟩ := hv
  go_enter Tryz.func269, Tryz.ntmps269
  go_wp2_with fail
  go_loopw [3, 8] (fun m i wr => ∃ k : Nat, k ≤ zs.length ∧ i = .int .i64 k ∧ m = .int .i64 (lg (zs.take k)) ∧ wr = w) (fun _ i _ => zs.length - (intOf i).toNat)
  case atStart => exact ⟨0, by omega, rfl, rfl, rfl⟩
  case round =>
    obtain ⟨k, hk, rfl, rfl, rfl⟩ := hrel
    by_cases hlk : k < zs.length
    · have hki : (k : Int) < (zs.length : Int) := by omega
      obtain ⟨b1, o1, k1, he1, c1⟩ := HV.out.cell hlk
      simp only [Value.slice.injEq] at he1
      obtain ⟨rfl, _, rfl⟩ := he1
      have ht := lg_take zs hlk
      obtain ⟨x, hx⟩ : ∃ x, zs.getD k 0 = x := ⟨_, rfl⟩
      rw [hx] at c1 ht
      have HT := Lib.hid ht
      obtain ⟨m, hm⟩ : ∃ m, lg (zs.take k) = m := ⟨_, rfl⟩
      rw [hm] at ht
      have HT2 := Lib.hid ht
      rw [hm]
      clear hx ht HT
      go_wp2_with fail
      go_roundw
      case rel => exact ⟨k + 1, by omega, by go_num, by rw [HT2.out], (by first | rfl | trivial)⟩
      case measure => simp [intOf]; omega
    · have hki : ¬ (k : Int) < (zs.length : Int) := by omega
      have e : zs.take k = zs := List.take_of_length_le (by omega)
      rw [e]
      clear e
      go_wp2_with fail
      go_ret
      exact ⟨rfl, rfl⟩
theorem shr_take (zs : List Int) {k : Nat} (h : k < zs.length) : shr (zs.take (k + 1)) = shr (zs.take k) + 2 ^ (20 - (zs.getD k 0).toNat) := by
  unfold shr
  rw [List.take_add_one, sumN_append, List.getD_eq_getElem?_getD, List.getElem?_eq_getElem h]
  simp [sumN]
theorem shr_bound (zs : List Int) : shr zs ≤ 1048576 * zs.length := sumN_le (fun x _ => Nat.pow_le_pow_right (by decide) (show 20 - x.toNat ≤ 20 by omega))
/-- What the share is, or why there is none. -/
def ShareP (zs : List Int) (n : Int) (err : Nat) : Prop := (¬ (zs.length ≤ 258 ∧ Within 0 20 zs) ∧ n = 0 ∧ err = 1) ∨ ((zs.length ≤ 258 ∧ Within 0 20 zs) ∧ n = (shr zs : Int) ∧ err = 0)
set_option maxRecDepth 100000 in
set_option maxHeartbeats 1000000 in
theorem share_any (v : Value) (zs : List Int) (w : World) (hv : IsInts w v zs) (hz : zs.length ≤ 9223372036854775807) :
    Calls Tryz.prog 218 #[v] w fun e w' => ∃ (n : Int) (err : Nat), e = .returned (.tuple #[.int .i64 n, .int .i64 (err : Int)]) ∧ ShareP zs n err ∧ w' = w := by
  have HV := Lib.hid hv
  obtain ⟨ad, cap, rfl, _⟩ := hv
  by_cases hl : zs.length ≤ 258
  · have hlb : (zs.length : Int) ≤ 258 := by omega
    have hnl : decide (258 < (zs.length : Int)) = false := by simp only [decide_eq_false_iff_not]; omega
    by_cases hw : Within 0 20 zs
    · have HW := Lib.hid hw
      have HA := Lib.hid (areWithin_any _ zs 0 20 true w HV.out ⟨fun _ => hw, fun _ => rfl⟩ hz)
      clear hw
      go_enter Tryz.func218, Tryz.ntmps218
      go_wp2_with fail
      refine HA.out.mono ?_
      rintro e w1 ⟨rfl, rfl⟩
      go_wp2_with fail
      go_loopw [4, 17] (fun m i wr => ∃ k s : Nat, k ≤ zs.length ∧ i = .int .i64 k ∧ m = .int .i64 s ∧ s = shr (zs.take k) ∧ wr = w1) (fun _ i _ => zs.length - (intOf i).toNat)
      case atStart => exact ⟨0, 0, by omega, rfl, rfl, rfl, rfl⟩
      case round =>
        obtain ⟨k, s, hk, rfl, rfl, hs, rfl⟩ := hrel
        by_cases hlk : k < zs.length
        · have hki : (k : Int) < (zs.length : Int) := by omega
          obtain ⟨b1, o1, k1, he1, c1⟩ := HV.out.cell hlk
          simp only [Value.slice.injEq] at he1
          obtain ⟨rfl, _, rfl⟩ := he1
          have ht := shr_take zs hlk
          have hx2 := HW.out _ (getD_mem hlk)
          have hsb : s ≤ 1048576 * 258 := by
            have := shr_bound (zs.take k)
            rw [← hs, List.length_take] at this
            have h3 : 1048576 * min k zs.length ≤ 1048576 * 258 := Nat.mul_le_mul_left _ (by omega)
            omega
          obtain ⟨x, hx⟩ : ∃ x, zs.getD k 0 = x := ⟨_, rfl⟩
          rw [hx] at c1 ht hx2
          obtain ⟨e, he⟩ : ∃ e, 20 - x.toNat = e := ⟨_, rfl⟩
          have hxe : (20 : Int) - x = (e : Int) := by omega
          have hxe2 : ¬ (20 : Int) - x < 0 := by omega
          have hpe : 2 ^ e ≤ 1048576 := Nat.pow_le_pow_right (by decide) (show e ≤ 20 by omega)
          rw [he, ← hs] at ht
          have HT := Lib.hid ht
          obtain ⟨P, hP⟩ : ∃ P, 2 ^ e = P := ⟨_, rfl⟩
          rw [hP] at hpe ht
          have HTP := Lib.hid ht
          have HP := Lib.hid hP
          clear hs hx ht HT hP
          have hwv : Hid (wrap64 ((s : Int) + wrap64 (2 ^ e)) = ((s + P : Nat) : Int)) := Lib.hid (by
            have h1 : (2 : Int) ^ e = (P : Int) := by rw [← HP.out]; exact (Int.natCast_pow 2 e).symm
            rw [h1, IntWalk.wrap64_in (P : Int) (by omega), IntWalk.wrap64_in ((s : Int) + (P : Int)) (by omega)]
            omega)
          go_wp2_with fail
          go_roundw
          case rel => exact ⟨k + 1, s + P, by omega, by go_num, by rw [hwv.out], HTP.out.symm, (by first | rfl | trivial)⟩
          case measure => simp [intOf]; omega
        · have hki : ¬ (k : Int) < (zs.length : Int) := by omega
          have e : zs.take k = zs := List.take_of_length_le (by omega)
          rw [e] at hs
          have HS := Lib.hid hs
          clear e hs
          go_wp2_with fail
          go_ret2
          exact ⟨_, 0, rfl, Or.inr ⟨⟨hl, HW.out⟩, by rw [HS.out], rfl⟩, rfl⟩
    · have HW := Lib.hid hw
      have HA := Lib.hid (areWithin_any _ zs 0 20 false w HV.out ⟨fun h => (by cases h), fun h => absurd h hw⟩ hz)
      clear hw
      go_enter Tryz.func218, Tryz.ntmps218
      go_wp2_with fail
      refine HA.out.mono ?_
      rintro e w1 ⟨rfl, rfl⟩
      go_wp2_with fail
      go_ret2
      exact ⟨0, 1, rfl, Or.inl ⟨fun h => HW.out h.2, rfl, rfl⟩, rfl⟩
  · have hlb : 258 < (zs.length : Int) := by omega
    go_enter Tryz.func218, Tryz.ntmps218
    go_wp2_with fail
    go_ret2
    exact ⟨0, 1, rfl, Or.inl ⟨fun h => hl h.1, rfl, rfl⟩, rfl⟩
end Go.Proofs.YtojphcoghbiepaaGreatDoor
namespace Go.Proofs.YtojphcoghbiepaaGreatDoor
open Go.RowKit HufM
set_option linter.unusedVariables false
set_option maxRecDepth 100000 in
set_option maxHeartbeats 2000000 in
theorem rShare_any (v : Value) (zs : List Int) (w : World) (hv : IsInts w v zs) (hz : zs.length ≤ 1000) (hw : Within 0 20 zs) :
    Calls Tryz.prog 168 #[v] w fun e w' => e = .returned (.int .i64 (shr zs : Int)) ∧ w' = w := by
  have HV := Lib.hid hv
  have HW := Lib.hid hw
  obtain ⟨ad, cap, rfl, _⟩ := hv
  clear hw
  go_enter Tryz.func168, Tryz.ntmps168
  go_wp2_with fail
  go_loopw [3, 9] (fun m i wr => ∃ k s : Nat, k ≤ zs.length ∧ i = .int .i64 k ∧ m = .int .i64 s ∧ s = shr (zs.take k) ∧ wr = w) (fun _ i _ => zs.length - (intOf i).toNat)
  case atStart => exact ⟨0, 0, by omega, rfl, rfl, rfl, rfl⟩
  case round =>
    obtain ⟨k, s, hk, rfl, rfl, hs, rfl⟩ := hrel
    by_cases hlk : k < zs.length
    · have hki : (k : Int) < (zs.length : Int) := by omega
      obtain ⟨b1, o1, k1, he1, c1⟩ := HV.out.cell hlk
      simp only [Value.slice.injEq] at he1
      obtain ⟨rfl, _, rfl⟩ := he1
      have ht := shr_take zs hlk
      have hx2 := HW.out _ (getD_mem hlk)
      have hsb : s ≤ 1048576 * 1000 := by
        have := shr_bound (zs.take k)
        rw [← hs, List.length_take] at this
        have h3 : 1048576 * min k zs.length ≤ 1048576 * 1000 := Nat.mul_le_mul_left _ (by omega)
        omega
      obtain ⟨x, hx⟩ : ∃ x, zs.getD k 0 = x := ⟨_, rfl⟩
      rw [hx] at c1 ht hx2
      obtain ⟨E, he⟩ : ∃ e, 20 - x.toNat = e := ⟨_, rfl⟩
      have hxe : (20 : Int) - x = (E : Int) := by omega
      have hE : E ≤ 20 := by omega
      rw [he, ← hs] at ht
      have HT := Lib.hid ht
      clear hs hx ht he
      go_wp2_with fail
      go_loopw [6, 15] (fun p j wr2 => ∃ t P : Nat, t ≤ E ∧ j = .int .i64 t ∧ p = .int .i64 P ∧ P = 2 ^ t ∧ wr2 = wr) (fun _ j _ => E - (intOf j).toNat)
      case atStart => exact ⟨0, 1, by omega, rfl, rfl, rfl, rfl⟩
      case round =>
        obtain ⟨t, P, htE, rfl, rfl, hP, rfl⟩ := hrel
        have hPb : P ≤ 1048576 := by rw [hP]; exact Nat.pow_le_pow_right (by decide) (show t ≤ 20 by omega)
        by_cases hte : t < E
        · have hte2 : (t : Int) < (E : Int) := by omega
          have HP : Hid (P * 2 = 2 ^ (t + 1)) := Lib.hid (by rw [Nat.pow_succ, ← hP])
          clear hP
          go_wp2_with fail
          go_roundw
          case rel => exact ⟨t + 1, P * 2, by omega, by go_num, by go_num, HP.out, (by first | rfl | trivial)⟩
          case measure => simp [intOf]; omega
        · have hte2 : ¬ (t : Int) < (E : Int) := by omega
          have HP : Hid (P = 2 ^ E) := Lib.hid (by rw [hP]; congr 1; omega)
          clear hP
          go_wp2_with fail
          go_roundw
          case rel => exact ⟨k + 1, s + P, by omega, by go_num, by go_num, by rw [HP.out]; exact HT.out.symm, (by first | rfl | trivial)⟩
          case measure => simp [intOf]; omega
    · have hki : ¬ (k : Int) < (zs.length : Int) := by omega
      have e : zs.take k = zs := List.take_of_length_le (by omega)
      rw [e] at hs
      have HS := Lib.hid hs
      clear e hs
      go_wp2_with fail
      go_ret
      rw [HS.out]
      exact ⟨rfl, rfl⟩
end Go.Proofs.YtojphcoghbiepaaGreatDoor
namespace Go.Proofs.YtojphcoghbiepaaGreatDoor
open Go.RowKit HufM
set_option linter.unusedVariables false
/-- Lengths are a whole code. -/
def WholeP (zs : List Int) : Prop := Within 1 20 zs ∧ shr zs = 1048576
set_option maxRecDepth 100000 in
set_option maxHeartbeats 1000000 in
theorem rWhole_any (v : Value) (zs : List Int) (r : Bool) (w : World) (hv : IsInts w v zs) (hz : zs.length ≤ 258) (hr : r = true ↔ WholeP zs) :
    Calls Tryz.prog 107 #[v] w fun e w' => e = .returned (.bool r) ∧ w' = w := by
  have HV := Lib.hid hv
  have HR := Lib.hid hr
  clear hr
  by_cases hw : Within 1 20 zs
  · have HA := Lib.hid (may_any v zs 1 20 true w HV.out ⟨fun _ => hw, fun _ => rfl⟩ (by omega))
    have HS := Lib.hid (rShare_any v zs w HV.out (by omega) (fun z hz => by have := hw z hz; omega))
    have hsb : shr zs ≤ 1048576 * 258 := Nat.le_trans (shr_bound zs) (Nat.mul_le_mul_left _ hz)
    have HW := Lib.hid hw
    clear hw
    by_cases hs : shr zs = 1048576
    · obtain rfl : r = true := HR.out.2 ⟨HW.out, hs⟩
      have hb : ((shr zs : Int) == 1048576) = true := by rw [beq_iff_eq]; omega
      generalize shr zs = T at *
      clear hs
      go_enter Tryz.func107, Tryz.ntmps107
      go_wp2_with fail
      refine HA.out.mono ?_
      rintro e w1 ⟨rfl, rfl⟩
      go_wp2_with fail
      refine HS.out.mono ?_
      rintro e w2 ⟨rfl, rfl⟩
      go_wp2_with fail
      go_ret
      exact ⟨rfl, rfl⟩
    · obtain rfl : r = false := by rw [Bool.eq_false_iff, Ne, HR.out]; exact fun h => hs h.2
      have hb : ((shr zs : Int) == 1048576) = false := by rw [beq_eq_false_iff_ne]; omega
      generalize shr zs = T at *
      clear hs
      go_enter Tryz.func107, Tryz.ntmps107
      go_wp2_with fail
      refine HA.out.mono ?_
      rintro e w1 ⟨rfl, rfl⟩
      go_wp2_with fail
      refine HS.out.mono ?_
      rintro e w2 ⟨rfl, rfl⟩
      go_wp2_with fail
      go_ret
      exact ⟨rfl, rfl⟩
  · obtain rfl : r = false := by rw [Bool.eq_false_iff, Ne, HR.out]; exact fun h => hw h.1
    have HA := Lib.hid (may_any v zs 1 20 false w HV.out ⟨fun h => (by cases h), fun h => absurd h hw⟩ (by omega))
    clear hw
    go_enter Tryz.func107, Tryz.ntmps107
    go_wp2_with fail
    refine HA.out.mono ?_
    rintro e w1 ⟨rfl, rfl⟩
    go_wp2_with fail
    go_ret
    exact ⟨rfl, rfl⟩
end Go.Proofs.YtojphcoghbiepaaGreatDoor
namespace Go.Proofs.YtojphcoghbiepaaGreatDoor
open Go.RowKit CanM HufM
set_option linter.unusedVariables false
/-- A length of 0 takes the whole share. -/
theorem whole_iff {zs : List Int} (h3 : 2 ≤ zs.length) : (Within 0 20 zs ∧ shr zs = 1048576) ↔ WholeP zs := by
  constructor
  · rintro ⟨h1, h2⟩
    refine ⟨fun z hz => ?_, h2⟩
    have hb := h1 z hz
    by_cases h0 : z = 0
    · exfalso
      obtain ⟨s, t, rfl⟩ := List.append_of_mem hz
      unfold shr at h2
      rw [sumN_append] at h2
      simp only [sumN] at h2
      subst h0
      simp only [Int.toNat_zero, Nat.sub_zero] at h2
      have hpos : ∀ (l : List Int), l ≠ [] → 0 < sumN (fun x : Int => 2 ^ (20 - x.toNat)) l := by
        intro l hl
        cases l with
        | nil => exact absurd rfl hl
        | cons y l =>
          simp only [sumN]
          have : 0 < 2 ^ (20 - y.toNat) := Nat.pow_pos (by decide)
          omega
      by_cases hs : s = []
      · subst hs
        have ht : t ≠ [] := by rintro rfl; simp at h3
        have := hpos t ht
        omega
      · have := hpos s hs
        omega
    · omega
  · rintro ⟨h1, h2⟩
    exact ⟨fun z hz => by have := h1 z hz; omega, h2⟩
set_option maxRecDepth 100000 in
set_option maxHeartbeats 1000000 in
theorem areWhole_any (v : Value) (zs : List Int) (r : Bool) (w : World) (hv : IsInts w v zs) (h3 : 2 ≤ zs.length) (hz : zs.length ≤ 258) (hr : r = true ↔ WholeP zs) :
    Calls Tryz.prog 161 #[v] w fun e w' => e = .returned (.bool r) ∧ w' = w := by
  have HV := Lib.hid hv
  have HR := Lib.hid hr
  obtain ⟨a, cap, rfl, _⟩ := hv
  clear hr
  go_enter Tryz.func161, Tryz.ntmps161
  go_wp2_with fail
  refine (share_any _ zs w HV.out (by omega)).mono ?_
  rintro e w1 ⟨n, err, rfl, hP, rfl⟩
  rcases hP with ⟨h1, rfl, rfl⟩ | ⟨h1, rfl, rfl⟩
  · obtain rfl : r = false := by
      rw [Bool.eq_false_iff, Ne, HR.out, ← whole_iff h3]
      exact fun h => h1 ⟨hz, h.1⟩
    clear h1
    go_wp2_with fail
    go_ret
    exact ⟨rfl, rfl⟩
  · by_cases hs : shr zs = 1048576
    · obtain rfl : r = true := by rw [HR.out, ← whole_iff h3]; exact ⟨h1.2, hs⟩
      have hb : ((shr zs : Int) == 1048576) = true := by rw [beq_iff_eq]; omega
      clear h1
      generalize shr zs = T at *
      clear hs
      go_wp2_with fail
      go_ret
      exact ⟨rfl, rfl⟩
    · obtain rfl : r = false := by
        rw [Bool.eq_false_iff, Ne, HR.out]
        exact fun h => hs h.2
      have hb : ((shr zs : Int) == 1048576) = false := by rw [beq_eq_false_iff_ne]; omega
      clear h1
      generalize shr zs = T at *
      clear hs
      go_wp2_with fail
      go_ret
      exact ⟨rfl, rfl⟩
end Go.Proofs.YtojphcoghbiepaaGreatDoor
namespace Go.Proofs.YtojphcoghbiepaaGreatDoor
open Go.RowKit CanM HufM
set_option linter.unusedVariables false
def zero838 (x : Value) (i : Nat) : Value := if i = 0 then x else if i < 259 then .int .i64 0 else if i < 517 then .int .u32 0 else if i < 775 then .int .i64 0 else if i < 796 then .int .u32 0 else if i < 817 then .int .i64 0 else .int .u32 0
set_option maxRecDepth 100000 in
theorem built68 (x : Int) : Tryz.prog.built 215 [(0, .int .i64 x)] = some (cellsF 838 (zero838 (.int .i64 x))) := by kernel_rfl
set_option maxHeartbeats 1000000 in
theorem new_table (v : Value) (zs : List Int) (w : World) (hv : IsInts w v zs) (h3 : 3 ≤ zs.length) (h258 : zs.length ≤ 258) (h : ¬ WholeP zs) :
    Calls Tryz.prog 99 #[v] w fun e w' => e = .returned (.tuple #[.pointer none, .int .i64 22]) ∧ w' = w := by
  have HV := Lib.hid hv
  have HH := Lib.hid h
  obtain ⟨a, cap, rfl, _⟩ := hv
  have h3i : (3 : Int) ≤ zs.length := by omega
  have h4i : (zs.length : Int) ≤ 258 := by omega
  clear h
  go_enter Tryz.func99, Tryz.ntmps99
  go_wp2_with fail
  refine (areWhole_any _ zs false w HV.out (by omega) h258 (by simpa using HH.out)).mono ?_
  rintro e w' ⟨rfl, rfl⟩
  go_wp2_with fail
  go_ret2
  exact ⟨rfl, rfl⟩
set_option maxRecDepth 100000 in
set_option maxHeartbeats 1000000 in
theorem new_yes (v : Value) (zs : List Int) (w : World) (hv : IsInts w v zs) (h3 : 3 ≤ zs.length) (h258 : zs.length ≤ 258) (h : WholeP zs) :
    Calls Tryz.prog 99 #[v] w fun e w' => e = .returned (.tuple #[.pointer (some ⟨w.heap.size, 0, none⟩), .int .i64 0]) ∧ IsCode w' w.heap.size zs ∧ Below w.heap.size w w' := by
  have HV := Lib.hid hv
  have HH := Lib.hid h
  obtain ⟨a, cap, rfl, _⟩ := hv
  have h3i : (3 : Int) ≤ zs.length := by omega
  have h4i : (zs.length : Int) ≤ 258 := by omega
  have hb := built68 (zs.length : Int)
  have hobj : Hid (Obj838 (w.alloc (.cells (cellsF 838 (zero838 (.int .i64 (zs.length : Int)))) 215)) w.heap.size (zero838 (.int .i64 (zs.length : Int)))) := Lib.hid (heap_alloc_new w _)
  generalize cellsF 838 (zero838 (.int .i64 (zs.length : Int))) = Z at *
  have hbel : Hid (Below w.heap.size w (w.alloc (.cells Z 215))) := Lib.hid ((Below.refl w.heap.size w).alloc (by exact Nat.le_refl _) _)
  clear h
  go_enter Tryz.func99, Tryz.ntmps99
  go_wp2_with fail
  refine (areWhole_any _ zs true w HV.out (by omega) h258 (by simpa using HH.out)).mono ?_
  rintro e w' ⟨rfl, rfl⟩
  go_wp2_with (refine wpList_build_one rfl 215 0 _ rfl _ rfl Z hb ?_)
  refine (fill_any w'.heap.size _ zs w' _ _ hobj.out rfl HV.out (Nat.le_refl _) hbel.out h258 (fun z hz => HH.out.1 z hz) HH.out.2).mono ?_
  rintro e w2 ⟨rfl, hC, hT⟩
  have HC := Lib.hid hC
  have HB : Hid (Below w'.heap.size w' w2) := Lib.hid (hbel.out.trans (hT.below (by show w'.heap.size ≤ (w'.heap.push _).size; simp) (fun i hi => by rw [hi]; exact Nat.le_refl _)))
  clear hC hT
  go_wp2_with fail
  go_ret2
  exact ⟨rfl, HC.out, HB.out⟩
theorem IsCode.size {w : World} {b : Nat} {zs : List Int} (h : IsCode w b zs) : w.cell? ⟨b, 0, none⟩ = some (.int .i64 (zs.length : Int)) := by
  obtain ⟨F, h1, h2⟩ := h
  rw [(h1.cell (i := 0) (by omega)).1, h2.size]
theorem IsCode.sym {w : World} {b : Nat} {zs : List Int} (h : IsCode w b zs) (hw : ∀ z ∈ zs, 1 ≤ z ∧ z ≤ 20) (h258 : zs.length ≤ 258) {i : Nat} (hi : i < zs.length) :
    w.cell? ⟨b, 1 + i, none⟩ = some (.int .i64 (ln zs i : Int)) ∧ w.cell? ⟨b, 259 + i, none⟩ = some (.int .u32 (cod zs (ln zs i, i) : Int)) ∧ w.cell? ⟨b, 517 + plc zs i, none⟩ = some (.int .i64 (i : Int)) := by
  obtain ⟨F, h1, h2⟩ := h
  have hl : ln zs i < 21 := by
    have := hw (zs.getD i 0) (by rw [List.getD_eq_getElem?_getD, List.getElem?_eq_getElem hi]; exact List.getElem_mem hi)
    unfold ln; omega
  obtain ⟨a1, a2, a3⟩ := h2.sym i hi (Or.inl hl)
  have hp := plc_bound zs hi
  rw [(h1.cell (i := 1 + i) (by omega)).1, (h1.cell (i := 259 + i) (by omega)).1, (h1.cell (i := 517 + plc zs i) (by omega)).1, a1, a2, a3, cod_rank hi (ln zs i) rfl]
  exact ⟨rfl, rfl, rfl⟩
theorem IsCode.len {w : World} {b : Nat} {zs : List Int} (h : IsCode w b zs) {m : Nat} (h1 : 1 ≤ m) (h20 : m ≤ 20) :
    w.cell? ⟨b, 775 + m, none⟩ = some (.int .u32 (fcod zs m : Int)) ∧ w.cell? ⟨b, 796 + m, none⟩ = some (.int .i64 (cl zs m : Int)) ∧ w.cell? ⟨b, 817 + m, none⟩ = some (.int .u32 (((fcod zs m + rank zs m zs.length) * sz m : Nat) : Int)) := by
  obtain ⟨F, k1, k2⟩ := h
  obtain ⟨a1, a2⟩ := k2.fst m h1 (by omega)
  rw [(k1.cell (i := 775 + m) (by omega)).1, (k1.cell (i := 796 + m) (by omega)).1, (k1.cell (i := 817 + m) (by omega)).1, a1, a2, k2.end_ m h1 (by omega)]
  exact ⟨rfl, rfl, rfl⟩
set_option maxHeartbeats 400000 in
theorem csize_any (b : Nat) (zs : List Int) (w : World) (h : IsCode w b zs) : Calls Tryz.prog 219 #[.pointer (some ⟨b, 0, none⟩)] w fun e w' => e = .returned (.int .i64 (zs.length : Int)) ∧ w' = w := by
  have c0 := h.size
  clear h
  go_enter Tryz.func219, Tryz.ntmps219
  go_wp2
  go_ret
  exact ⟨rfl, rfl⟩
set_option maxRecDepth 100000 in
set_option maxHeartbeats 1000000 in
theorem of_yes (b : Nat) (zs : List Int) (i : Nat) (w : World) (h : IsCode w b zs) (hw : ∀ z ∈ zs, 1 ≤ z ∧ z ≤ 20) (h258 : zs.length ≤ 258) (hi : i < zs.length) :
    Calls Tryz.prog 163 #[.pointer (some ⟨b, 0, none⟩), .int .i64 (i : Int)] w fun e w' => e = .returned (.tuple #[.int .u32 (cod zs (ln zs i, i) : Int), .int .i64 (ln zs i : Int), .int .i64 0]) ∧ ∃ n, w' = w.drewN n := by
  have c0 := h.size
  have H := Lib.hid h
  obtain ⟨c1, c2, _⟩ := h.sym hw h258 hi
  have hz : ((zs.length : Int) == 0) = false := by rw [beq_eq_false_iff_ne]; omega
  have hlt : (i : Int) < zs.length := by omega
  have h258i : (i : Int) < 258 := by omega
  obtain ⟨A1, hA1⟩ : ∃ A1, 1 + i = A1 := ⟨_, rfl⟩
  obtain ⟨A2, hA2⟩ : ∃ A2, 259 + i = A2 := ⟨_, rfl⟩
  rw [hA1] at c1
  rw [hA2] at c2
  generalize cod zs (ln zs i, i) = C at *
  generalize ln zs i = n at *
  clear h
  go_enter Tryz.func163, Tryz.ntmps163
  go_wp2_with fail
  refine (csize_any b zs _ H.out).mono ?_
  rintro e w' ⟨rfl, rfl⟩
  go_wp2_with fail
  go_quiet (fail)
  go_wp2_with fail
  go_ret3
  exact ⟨rfl, _, rfl⟩
end Go.Proofs.YtojphcoghbiepaaGreatDoor
namespace Go.Proofs.YtojphcoghbiepaaGreatDoor
namespace CanM
open Go.RowKit HufM BitM
set_option linter.unusedVariables false
theorem num_zeros : ∀ (q : List Bool) (e : Nat), num (q ++ List.replicate e false) = num q * 2 ^ e
  | q, 0 => by simp
  | q, e + 1 => by
    rw [List.replicate_succ', ← List.append_assoc, num_snoc, num_zeros q e, Nat.pow_succ]
    show 2 * _ + 0 = _
    rw [Nat.add_zero, ← Nat.mul_assoc, Nat.mul_comm 2, Nat.mul_assoc, Nat.mul_comm 2]
/-- Behind the codes of m bits. -/
def endc (l : List Int) (m : Nat) : Nat := (fcod l m + rank l m l.length) * sz m
theorem endc_is (l : List Int) (m : Nat) (hm : m ≤ 20) : endc l m = fst_ l (m + 1) := fst_next l m hm
theorem fst_mono (l : List Int) : ∀ (e m : Nat), fst_ l m ≤ fst_ l (m + e)
  | 0, m => Nat.le_refl _
  | e + 1, m => by
    refine Nat.le_trans (fst_mono l e m) ?_
    rw [← Nat.add_assoc]
    unfold fst_
    generalize ent l = t
    induction t with
    | nil => exact Nat.le_refl _
    | cons x t ih =>
      simp only [sumN]
      by_cases h : x.1 < m + e
      · rw [if_pos h, if_pos (by omega)]; omega
      · rw [if_neg h]; omega
theorem ent_of {l : List Int} {i : Nat} (hi : i < l.length) : (ln l i, i) ∈ ent l := ini_of hi
/-- What a row of bits begins with, told by the ends. -/
theorem row_find {l : List Int} (hw : ∀ z ∈ l, 1 ≤ z ∧ z ≤ 20) (hs : shr l = 1048576) (q : List Bool) (T V : Nat) (hT : T = min q.length 20) (hV : V = num (q.take T) * 2 ^ (20 - T)) :
    ∃ i, i < l.length ∧ 1 ≤ ln l i ∧ ln l i ≤ 20 ∧ V < 1048576 ∧ V < endc l (ln l i) ∧ (∀ m, 1 ≤ m → m < ln l i → endc l m ≤ V) ∧ V / 2 ^ (20 - ln l i) = fcod l (ln l i) + rank l (ln l i) i ∧
      (ln l i ≤ T → Begins l (ln l i, i) q) ∧ (T < ln l i → ∀ j, j < l.length → ¬ Begins l (ln l j, j) q) := by
  have hlnb : ∀ j, j < l.length → 1 ≤ ln l j ∧ ln l j ≤ 20 := fun j hj => by
    have h := hw (l.getD j 0) (by rw [List.getD_eq_getElem?_getD, List.getElem?_eq_getElem hj]; exact List.getElem_mem hj)
    unfold ln
    omega
  have hTq : T ≤ q.length := by omega
  have hT20 : T ≤ 20 := by omega
  have hlen : (q.take T ++ List.replicate (20 - T) false).length = 20 := by simp; omega
  have hrow : V = num (q.take T ++ List.replicate (20 - T) false) := by rw [num_zeros]; exact hV
  have hVl : V < 1048576 := by have := num_lt (q.take T ++ List.replicate (20 - T) false); rw [hlen, ← hrow] at this; exact this
  obtain ⟨i, hi, h1, h2⟩ := cover (l := l) (v := V) (by rw [hs]; exact hVl)
  have hb := hlnb i hi
  have h1' : frm l (ln l i, i) ≤ V := h1
  have h2' : V < frm l (ln l i, i) + sz (ln l i) := h2
  have hfr : frm l (ln l i, i) = fst_ l (ln l i) + rank l (ln l i) i * sz (ln l i) := frm_rank hi (ln l i) rfl
  have hrl := rank_lt l hi
  have hfe : fcod l (ln l i) * sz (ln l i) = fst_ l (ln l i) := Nat.div_mul_cancel (fst_dvd l (ln l i))
  have hcode : V / 2 ^ (20 - ln l i) = fcod l (ln l i) + rank l (ln l i) i := by
    rw [hfr, ← hfe, ← Nat.add_mul] at h1' h2'
    have hp := sz_pos (ln l i)
    show V / sz (ln l i) = _
    refine Nat.div_eq_of_lt_le h1' ?_
    rw [Nat.succ_mul]; exact h2'
  have hclash : ∀ j, j < l.length → Begins l (ln l j, j) q → j = i := by
    intro j hj hB
    have hbj := hlnb j hj
    obtain ⟨k1, k2⟩ := begins_row (l := l) (x := (ln l j, j)) (q := q.take T) (r := List.replicate (20 - T) false) ⟨by have := hB.1; simp only [List.length_take] at this ⊢; omega, by
      have := hB.1
      simp only at this
      rw [List.take_take, Nat.min_eq_left (by show ln l j ≤ T; omega)]; exact hB.2⟩ hlen hbj.2
    rw [← hrow] at k1 k2
    by_cases e : j = i
    · exact e
    · exfalso
      rcases lt_or (ln l j, j) (ln l i, i) e with h5 | h5
      · have := apart (ent_of hj) (ent_of hi) h5; omega
      · have h6 := apart (ent_of hi) (ent_of hj) h5
        have h7 : siz (ln l i, i) = sz (ln l i) := rfl
        omega
  refine ⟨i, hi, hb.1, hb.2, hVl, ?_, ?_, hcode, ?_, ?_⟩
  · unfold endc
    have hp := sz_pos (ln l i)
    rw [hfr, ← hfe, ← Nat.add_mul] at h2'
    have h3 : (fcod l (ln l i) + rank l (ln l i) i + 1) * sz (ln l i) ≤ (fcod l (ln l i) + rank l (ln l i) l.length) * sz (ln l i) := Nat.mul_le_mul_right _ (by omega)
    rw [Nat.add_mul, Nat.one_mul] at h3
    omega
  · intro m hm1 hm2
    rw [endc_is l m (by omega)]
    have := fst_mono l (ln l i - (m + 1)) (m + 1)
    rw [show m + 1 + (ln l i - (m + 1)) = ln l i by omega] at this
    omega
  · intro hle
    refine ⟨by show ln l i ≤ q.length; omega, ?_⟩
    show num (q.take (ln l i)) = cod l (ln l i, i)
    rw [cod_rank hi (ln l i) rfl, ← hcode, hrow]
    have e : (q.take T ++ List.replicate (20 - T) false).take (ln l i) = q.take (ln l i) := by
      rw [List.take_append_of_le_length (by rw [List.length_take]; omega), List.take_take, Nat.min_eq_left hle]
    rw [← e, num_take _ _ (by omega), hlen]
  · intro hlt j hj hB
    have := hclash j hj hB
    subst this
    have := hB.1
    simp only at this
    omega
end CanM
end Go.Proofs.YtojphcoghbiepaaGreatDoor
namespace Go.Proofs.YtojphcoghbiepaaGreatDoor
open Go.RowKit BitM
set_option linter.unusedVariables false

set_option maxHeartbeats 400000 in
theorem isLength_yes (n : Int) (w : World) (h : 0 ≤ n) (h2 : n ≤ 32) : Calls Tryz.prog 116 #[.int .i64 n] w fun e w' => e = .returned (.bool true) ∧ w = w' := by
  go_enter Tryz.func116, Tryz.ntmps116
  go_wp2
  go_ret
  exact ⟨rfl, rfl⟩
set_option maxHeartbeats 400000 in
theorem upToByte_any (N : Int) (n : Nat) (hN : N = (n : Int)) (w : World) (hn : n ≤ 70368744177664) : Calls Tryz.prog 64 #[.int .i64 N] w fun e w' => e = .returned (.int .i64 (((8 - n % 8) % 8 : Nat) : Int)) ∧ w = w' := by
  subst hN
  have e : ((8 : Int) - (n : Int) % 8) % 8 = (((8 - n % 8) % 8 : Nat) : Int) := by omega
  have H := Lib.hid e
  clear e
  go_enter Tryz.func64, Tryz.ntmps64
  go_wp2
  go_ret
  rw [← H.out]
  exact ⟨rfl, rfl⟩

/-- Block b is a writer that has the bits q, of whose bytes tk were taken; v is the row of the others. -/
def IsWriter (w : World) (b : Nat) (v : Value) (q : List Bool) (tk : Nat) : Prop :=
  w.heap[b]? = some (.cells #[v, .int .u64 (num (tail q) : Int), .int .i64 (q.length : Int)] 104 (0, 0)) ∧ tk ≤ q.length / 8 ∧ w.ownsRow (b + 1) 5 1 v (q.length / 8 - tk) (((byts q).drop tk).map u8v)
theorem IsWriter.cells {w : World} {b : Nat} {v : Value} {q : List Bool} {tk : Nat} (h : IsWriter w b v q tk) :
    w.cell? ⟨b, 0, none⟩ = some v ∧ w.cell? ⟨b, 1, none⟩ = some (.int .u64 (num (tail q) : Int)) ∧ w.cell? ⟨b, 2, none⟩ = some (.int .i64 (q.length : Int)) ∧
    w.frozen? ⟨b, 0, none⟩ = false ∧ w.frozen? ⟨b, 1, none⟩ = false ∧ w.frozen? ⟨b, 2, none⟩ = false := by
  obtain ⟨h, _, _⟩ := h
  refine ⟨?_, ?_, ?_, frozen_of_row _ _ _ _ _ h, frozen_of_row _ _ _ _ _ h, frozen_of_row _ _ _ _ _ h⟩ <;> (rw [cell_of_row _ _ _ _ _ _ h]; rfl)
theorem IsWriter.lt {w : World} {b : Nat} {v : Value} {q : List Bool} {tk : Nat} (h : IsWriter w b v q tk) : ∀ k, foot b v k → k < w.heap.size ∧ b ≤ k := by
  intro k hk
  rcases hk with rfl | hk
  · exact ⟨(Array.getElem?_eq_some_iff.1 h.1).1, Nat.le_refl _⟩
  · have := h.2.2.lt k hk
    exact ⟨this.2, by omega⟩
theorem IsWriter.other {w w' : World} {b : Nat} {v : Value} {q : List Bool} {tk : Nat} (h : IsWriter w b v q tk) {S : Nat → Prop} (ht : Touch S w w') (hS : ∀ k, foot b v k → ¬ S k) : IsWriter w' b v q tk :=
  ⟨(ht.block b (h.lt b (Or.inl rfl)).1 (hS b (Or.inl rfl))).trans h.1, h.2.1, ownsRow_other h.2.2 (fun k hk => ht.block k (h.lt k (Or.inr hk)).1 (hS k (Or.inr hk)))⟩
set_option maxHeartbeats 400000 in
theorem newWriter_any (w : World) : Calls Tryz.prog 28 #[] w fun e w' => e = .returned (.pointer (some ⟨w.heap.size, 0, none⟩)) ∧ IsWriter w' w.heap.size (.slice none 0 0) [] 0 ∧ Below w.heap.size w w' := by
  go_enter Tryz.func28, Tryz.ntmps28
  go_wp2
  go_ret
  exact ⟨rfl, ⟨heap_alloc_new _ _, by decide, World.ownsRow_nil _ _ _ _⟩, (Below.refl _ _).alloc (Nat.le_refl _) _⟩
set_option maxHeartbeats 400000 in
theorem wlen_any (b : Nat) (v : Value) (q : List Bool) (tk : Nat) (w : World) (h : IsWriter w b v q tk) : Calls Tryz.prog 30 #[.pointer (some ⟨b, 0, none⟩)] w fun e w' => e = .returned (.int .i64 (q.length : Int)) ∧ w = w' := by
  obtain ⟨c0, c1, c2, f0, f1, f2⟩ := h.cells
  clear h
  go_enter Tryz.func30, Tryz.ntmps30
  go_wp2
  go_ret
  exact ⟨rfl, rfl⟩
set_option maxHeartbeats 400000 in
theorem wtake_any (b : Nat) (v : Value) (q : List Bool) (tk : Nat) (w : World) (h : IsWriter w b v q tk) : Calls Tryz.prog 32 #[.pointer (some ⟨b, 0, none⟩)] w fun e w' =>
    e = .returned (.string ⟨((byts q).drop tk).toArray⟩) ∧ IsWriter w' b (.slice none 0 0) q (q.length / 8) ∧ Touch (foot b v) w w' := by
  obtain ⟨c0, c1, c2, f0, f1, f2⟩ := h.cells
  have hk := conv_row h.2.2
  have H := Lib.hid h
  clear h
  go_enter Tryz.func32, Tryz.ntmps32
  go_wp2
  go_ret
  refine ⟨rfl, ⟨heap_setCell_same _ _ 0 _ _ _ H.out.1, Nat.le_refl _, ?_⟩, (Touch.refl _ _).setCell (Or.inl (Or.inl rfl)) _⟩
  rw [List.drop_of_length_le (by rw [byts_length]; exact Nat.le_refl _), Nat.sub_self]
  exact World.ownsRow_nil _ _ _ _
theorem part_code (q : List Bool) (X n : Nat) (hX : X < 2 ^ n) (hn : n ≤ 32) : bits BinOp.or IntKind.u64 (IntKind.u64.wrap ((num (tail q) : Int) * 2 ^ n)) (X : Int) = (num (tail q ++ field X n) : Int) := by
  have hr : num (tail q) < 2 ^ 8 := Nat.lt_of_lt_of_le (num_lt _) (Nat.pow_le_pow_right (by omega) (by rw [tail_length]; omega))
  have h32 : 2 ^ n ≤ 2 ^ 32 := Nat.pow_le_pow_right (by omega) hn
  have hm : num (tail q) * 2 ^ n < 2 ^ 40 := by
    have : num (tail q) * 2 ^ n ≤ 255 * 2 ^ 32 := Nat.mul_le_mul (by omega) h32
    omega
  have e1 : (num (tail q) : Int) * 2 ^ n = ((num (tail q) * 2 ^ n : Nat) : Int) := by simp
  have e2 : IntKind.u64.wrap ((num (tail q) * 2 ^ n : Nat) : Int) = ((num (tail q) * 2 ^ n : Nat) : Int) := by
    simp only [IntKind.wrap, IntKind.bits, IntKind.signed]
    simp
    omega
  rw [e1, e2, u64_or_nat _ _ (by omega) (by omega), nat_join n _ _ (by simp) hX, num_append, field_length, field_num, Nat.mod_eq_of_lt hX]
theorem shr_code (t : List Bool) (j m : Nat) (h : 8 * j + 8 ≤ t.length) (hm : m = t.length - 8 * j - 8) : ∃ (y : UInt8), (byts t)[j]? = some y ∧ (num t : Int) / 2 ^ m % 256 = (y.toNat : Int) := by
  have hj : j < (byts t).length := by rw [byts_length]; omega
  refine ⟨_, List.getElem?_eq_getElem hj, ?_⟩
  subst hm
  simp only [byts, List.getElem_map, List.getElem_range, byte_at t j h]
  rw [UInt8.toNat_ofNat']
  simp
/-- WHAT THE LOOP OF Put KNOWS: j whole bytes of t were appended. -/
structure PutLoop (w wr : World) (b : Nat) (v v1 : Value) (q t : List Bool) (tk j : Nat) : Prop where
  block : wr.heap[b]? = some (.cells #[v1, .int .u64 (num t : Int), .int .i64 (q.length : Int)] 104 (0, 0))
  row : wr.ownsRow (b + 1) 5 1 v1 (q.length / 8 - tk + j) (((byts q).drop tk ++ (byts t).take j).map u8v)
  touch : Touch (foot b v) w wr
  fresh : ∀ k, v1.ownBlock = some k → v.ownBlock = some k ∨ w.heap.size ≤ k
theorem PutLoop.cells {w wr : World} {b : Nat} {v v1 : Value} {q t : List Bool} {tk j : Nat} (h : PutLoop w wr b v v1 q t tk j) :
    wr.cell? ⟨b, 0, none⟩ = some v1 ∧ wr.cell? ⟨b, 1, none⟩ = some (.int .u64 (num t : Int)) ∧ wr.cell? ⟨b, 2, none⟩ = some (.int .i64 (q.length : Int)) ∧ wr.frozen? ⟨b, 0, none⟩ = false ∧ wr.frozen? ⟨b, 1, none⟩ = false ∧ wr.frozen? ⟨b, 2, none⟩ = false := by
  have h := h.block
  refine ⟨?_, ?_, ?_, frozen_of_row _ _ _ _ _ h, frozen_of_row _ _ _ _ _ h, frozen_of_row _ _ _ _ _ h⟩ <;> (rw [cell_of_row _ _ _ _ _ _ h]; rfl)
theorem PutLoop.start {w : World} {b : Nat} {v : Value} {q t : List Bool} {tk : Nat} (h : IsWriter w b v q tk) : PutLoop w (w.setCell ⟨b, 1, none⟩ (.int .u64 (num t : Int))) b v v q t tk 0 where
  block := heap_setCell_same _ _ 1 _ _ _ h.1
  row := by
    simp only [Nat.add_zero, List.take_zero, List.append_nil]
    exact ownsRow_other h.2.2 (fun k hk => heap_setCell_other _ _ _ _ (by have := (h.2.2.lt k hk).1; simp; omega))
  touch := (Touch.refl _ _).setCell (Or.inl (Or.inl rfl)) _
  fresh := fun k hk => Or.inl hk
theorem PutLoop.step {w wr w1 : World} {b : Nat} {v v1 v2 : Value} {q t : List Bool} {tk j : Nat} {y : UInt8} (h : PutLoop w wr b v v1 q t tk j) (hb : b < w.heap.size) (hy : (byts t)[j]? = some y) (O : Obj)
    (ho : w1.ownsRow (b + 1) 5 1 v2 (q.length / 8 - tk + j + 1) (((byts q).drop tk ++ (byts t).take j).map u8v ++ [u8v y])) (hg : (wr.alloc O).drew.grownBy w1 v1.ownBlock)
    (hf : ∀ k, v2.ownBlock = some k → v1.ownBlock = some k ∨ (wr.alloc O).drew.heap.size ≤ k) :
    PutLoop w (w1.setCell ⟨b, 0, none⟩ v2) b v v2 q t tk (j + 1) ∧ w1.cell? ⟨b, 0, none⟩ = some v1 ∧ w1.frozen? ⟨b, 0, none⟩ = false := by
  have hsz := h.touch.size
  have hbb : w1.heap[b]? = some (.cells #[v1, .int .u64 (num t : Int), .int .i64 (q.length : Int)] 104 (0, 0)) := by
    rw [hg.block b (by simp; omega) (fun e => by have := (h.row.lt b e.symm).1; omega)]
    show (wr.alloc O).heap[b]? = _
    rw [Below.heap_alloc _ _ _ (by omega)]
    exact h.block
  refine ⟨⟨heap_setCell_same _ _ 0 _ _ _ hbb, ?_, ?_, ?_⟩, by rw [cell_of_row _ _ _ _ _ _ hbb]; rfl, frozen_of_row _ _ _ _ _ hbb⟩
  · have e : ((byts q).drop tk ++ (byts t).take (j + 1)).map u8v = ((byts q).drop tk ++ (byts t).take j).map u8v ++ [u8v y] := by
      obtain ⟨hj, hy'⟩ := List.getElem?_eq_some_iff.1 hy
      rw [List.take_succ_eq_append_getElem hj, hy']; simp
    rw [e]
    exact ownsRow_other ho (fun k hk => heap_setCell_other _ _ _ _ (by have := (ho.lt k hk).1; simp; omega))
  · exact ((h.touch.alloc O).drew.grown hg (fun k hk => by
      rcases h.fresh k hk with g | g
      · exact Or.inl (Or.inr g)
      · exact Or.inr g)).setCell (Or.inl (Or.inl rfl)) _
  · intro k hk
    rcases hf k hk with g | g
    · exact h.fresh k g
    · exact Or.inr (by simp at g; omega)
theorem PutLoop.done {w wr : World} {b : Nat} {v v1 : Value} {q f t : List Bool} {tk : Nat} (h : PutLoop w wr b v v1 q t tk (t.length / 8)) (hW : IsWriter w b v q tk) (ht : t = tail q ++ f) (L : Int) (hL : L = ((q ++ f).length : Int)) :
    IsWriter ((wr.setCell ⟨b, 1, none⟩ (.int .u64 (num (tail (q ++ f)) : Int))).setCell ⟨b, 2, none⟩ (.int .i64 L)) b v1 (q ++ f) tk ∧ Touch (foot b v) w ((wr.setCell ⟨b, 1, none⟩ (.int .u64 (num (tail (q ++ f)) : Int))).setCell ⟨b, 2, none⟩ (.int .i64 L)) := by
  subst hL
  have hb2 := heap_setCell_same wr b 1 _ _ (.int .u64 (num (tail (q ++ f)) : Int)) h.block
  have hlen : (q ++ f).length / 8 = q.length / 8 + t.length / 8 := by
    rw [ht, List.length_append, List.length_append, tail_length]; omega
  have htk := hW.2.1
  refine ⟨⟨heap_setCell_same _ _ 2 _ _ _ hb2, by omega, ?_⟩, (h.touch.setCell (Or.inl (Or.inl rfl)) _).setCell (Or.inl (Or.inl rfl)) _⟩
  have hr := h.row
  rw [List.take_of_length_le (by rw [byts_length]; exact Nat.le_refl _)] at hr
  have e1 : (byts (q ++ f)).drop tk = (byts q).drop tk ++ byts t := by
    rw [byts_append, ← ht, List.drop_append_of_le_length (by rw [byts_length]; exact htk)]
  rw [e1, show (q ++ f).length / 8 - tk = q.length / 8 - tk + t.length / 8 by omega]
  exact ownsRow_other hr (fun k hk => by
    have := (hr.lt k hk).1
    rw [heap_setCell_other _ _ _ _ (by simp; omega), heap_setCell_other _ _ _ _ (by simp; omega)])
theorem and_code (t : List Bool) (e : Nat) (he : e = t.length - 8 * (t.length / 8)) (h64 : t.length ≤ 40) :
    bits BinOp.and IntKind.u64 (num t : Int) (IntKind.u64.wrap (IntKind.u64.wrap (2 ^ e) - 1)) = (num (t.drop (8 * (t.length / 8))) : Int) := by
  have h1 := num_lt t
  have h2 : 2 ^ t.length ≤ 2 ^ 40 := Nat.pow_le_pow_right (by omega) h64
  have he8 : e < 8 := by omega
  have h3 : 2 ^ e ≤ 2 ^ 7 := Nat.pow_le_pow_right (by omega) (by omega)
  have h4 : 0 < 2 ^ e := Nat.two_pow_pos e
  have e1 : (2 : Int) ^ e = ((2 ^ e : Nat) : Int) := by simp
  have e2 : IntKind.u64.wrap (IntKind.u64.wrap ((2 ^ e : Nat) : Int) - 1) = ((2 ^ e - 1 : Nat) : Int) := by
    generalize 2 ^ e = z at *
    simp only [IntKind.wrap, IntKind.bits, IntKind.signed]
    simp
    omega
  rw [e1, e2, u64_and_nat _ _ (by omega) (by omega), Nat.and_two_pow_sub_one_eq_mod, num_drop _ _ (by omega), he]
set_option maxRecDepth 100000 in
set_option maxHeartbeats 1000000 in
theorem put_any (b : Nat) (v : Value) (q : List Bool) (tk X n : Nat) (w : World) (h : IsWriter w b v q tk) (hn : n ≤ 32) (hX : X < 2 ^ n) (hq : q.length ≤ 1099511627776) :
    Calls Tryz.prog 63 #[.pointer (some ⟨b, 0, none⟩), .int .u32 (X : Int), .int .i64 (n : Int)] w fun e w' =>
      e = .returned (.int .i64 0) ∧ ∃ v1, IsWriter w' b v1 (q ++ field X n) tk ∧ Touch (foot b v) w w' ∧ (∀ k, v1.ownBlock = some k → v.ownBlock = some k ∨ w.heap.size ≤ k) := by
  obtain ⟨c0, c1, c2, f0, f1, f2⟩ := h.cells
  have H := Lib.hid h
  have hX32 : X < 4294967296 := Nat.lt_of_lt_of_le hX (Nat.pow_le_pow_right (by omega) hn : 2 ^ n ≤ 2 ^ 32)
  have hz : ((X : Int) / 2 ^ n != 0) = false := by
    have e : (X : Int) / 2 ^ n = ((X / 2 ^ n : Nat) : Int) := by simp
    rw [e, Nat.div_eq_of_lt hX]; rfl
  have hor := part_code q X n hX hn
  have htl : (tail q ++ field X n).length = q.length % 8 + n := by rw [List.length_append, tail_length, field_length]
  have HS := Lib.hid (PutLoop.start (t := tail q ++ field X n) h)
  have HA := Lib.hid (byts_append q (field X n))
  have HT := Lib.hid (tail_append q (field X n))
  generalize ht : tail q ++ field X n = t at *
  have HTT := Lib.hid ht
  have HTL := Lib.hid htl
  obtain ⟨i0, hi, hz0, hz1, hz2⟩ := info_parts info5
  have HI := Lib.hid hi
  have HZ0 := Lib.hid hz0
  have HZ1 := Lib.hid hz1
  have HZ2 := Lib.hid hz2
  clear h ht htl hi hz0 hz1 hz2
  go_enter Tryz.func63, Tryz.ntmps63
  go_wp2_with fail
  refine (isLength_yes _ _ (by omega) (by omega)).mono ?_
  rintro e w' ⟨rfl, rfl⟩
  go_wp2_with fail
  go_loopw [7, 41] (fun l i wr => ∃ (j : Nat) (v1 : Value), j ≤ (q.length % 8 + n) / 8 ∧ i = .int .i64 j ∧ l = .int .i64 ((q.length % 8 + n - 8 * j : Nat) : Int) ∧ PutLoop w wr b v v1 q t tk j) (fun _ i _ => (q.length % 8 + n) / 8 - (intOf i).toNat)
  case atStart => exact ⟨0, v, by omega, rfl, iv (by omega), HS.out⟩
  case round =>
    clear c0 c1 c2 f0 f1 f2
    obtain ⟨j, v1, hj, rfl, rfl, hP⟩ := hrel
    obtain ⟨c0, c1, c2, f0, f1, f2⟩ := hP.cells
    have HP := Lib.hid hP
    clear hP
    by_cases hlt : j < (q.length % 8 + n) / 8
    · have hjl : 8 * j + 8 ≤ t.length := by have := HTL.out; omega
      obtain ⟨y, hy, hsh⟩ := shr_code t j (q.length % 8 + n - 8 * j - 8) hjl (by have := HTL.out; omega)
      have hsh2 : IntKind.u8.wrap ((num t : Int) / 2 ^ (q.length % 8 + n - 8 * j - 8)) = (y.toNat : Int) := by rw [IntKind.wrap_u8']; exact hsh
      have he : ((q.length % 8 + n - 8 * j : Nat) : Int) - 8 = ((q.length % 8 + n - 8 * j - 8 : Nat) : Int) := by omega
      have hrow := HP.out.row
      have HR := Lib.hid hrow
      have hbs := (H.out.lt b (Or.inl rfl)).1
      have hbr := HP.out.touch.size
      have HY := Lib.hid hy
      clear hrow hjl hy
      go_wp2_with fail
      have hbase : b + 1 ≤ (wr.alloc (.cells #[.int .u8 (y.toNat : Int)] 5)).drew.heap.size := by simp; omega
      have HB := Lib.hid hbase
      have hca : (wr.alloc (.cells #[.int .u8 (y.toNat : Int)] 5)).cell? ⟨b, 0, none⟩ = some v1 := (((Below.refl wr.heap.size wr).alloc (Nat.le_refl _) _).cell (p := ⟨b, 0, none⟩) (by simp; omega)).trans c0
      have hcb : (wr.alloc (.cells #[.int .u8 (y.toNat : Int)] 5)).cell? ⟨b, 1, none⟩ = some (.int .u64 (num t : Int)) := (((Below.refl wr.heap.size wr).alloc (Nat.le_refl _) _).cell (p := ⟨b, 1, none⟩) (by simp; omega)).trans c1
      have hsm : q.length / 8 - tk + j + 1 ≤ maxLen := by unfold maxLen; omega
      have hsm2 : (q.length / 8 - tk + j + 1) * 1 ≤ 140737488355328 := by omega
      have HS1 := Lib.hid hsm
      have HS2 := Lib.hid hsm2
      clear hbase hsm hsm2
      go_region_law ((refine step_append_own' rfl _ _ 82 rfl (b + 1) 5 i0 (.int .u8 0) 1 1 Tryz.underlying82 HI.out HZ0.out HZ1.out HZ2.out rfl (by decide) _ _ _ rfl ((HR.out.alloc _).drew) ⟨wr.heap.size, 0, none⟩ 1 1 [.int .u8 (y.toNat : Int)] rfl rfl (cell_one_new _ _ _) (by intro u hu; simp at hu; subst hu; rfl) HS1.out HS2.out HB.out ?_; intro v2 w1 ho hg hf; obtain ⟨a2, cap2, rfl⟩ := slice_of_own ho; obtain ⟨hst, hcl, hfr⟩ := PutLoop.step HP.out hbs HY.out _ ho hg hf; have HST := Lib.hid hst; clear hst ho hg hf))
      all_goals
        go_wp2_with fail
        go_roundw
        case rel => exact ⟨j + 1, _, by omega, by go_num, iv (by omega), HST.out⟩
        case measure => simp [intOf]; omega
    · obtain rfl : j = (q.length % 8 + n) / 8 := by omega
      have hand := and_code t (q.length % 8 + n - 8 * ((q.length % 8 + n) / 8)) (by have := HTL.out; omega) (by have := HTL.out; omega)
      rw [← HT.out] at hand
      go_wp2_with fail
      go_region
      go_wp2_with fail
      go_ret
      have hL : (q.length : Int) + (n : Int) = ((q ++ field X n).length : Int) := by rw [List.length_append, field_length]; omega
      have hP := HP.out
      rw [← HTL.out] at hP
      obtain ⟨d1, d2⟩ := PutLoop.done hP H.out HTT.out.symm _ hL
      exact ⟨rfl, v1, d1, d2.drew, HP.out.fresh⟩
end Go.Proofs.YtojphcoghbiepaaGreatDoor
namespace Go.Proofs.YtojphcoghbiepaaGreatDoor
open Go.RowKit BitM
set_option linter.unusedVariables false

/-! ### The writer: what is refused; Pad; nil -/
/-- Bits 0 up to a whole byte. -/
def padding (q : List Bool) : List Bool := field 0 ((8 - q.length % 8) % 8)
set_option maxHeartbeats 400000 in
theorem wpad_any (b : Nat) (v : Value) (q : List Bool) (tk : Nat) (w : World) (h : IsWriter w b v q tk) (hq : q.length ≤ 1099511627776) :
    Calls Tryz.prog 31 #[.pointer (some ⟨b, 0, none⟩)] w fun e w' =>
      e = .returned (.tuple #[]) ∧ ∃ v1, IsWriter w' b v1 (q ++ padding q) tk ∧ Touch (foot b v) w w' ∧ (∀ k, v1.ownBlock = some k → v.ownBlock = some k ∨ w.heap.size ≤ k) := by
  have H := Lib.hid h
  clear h
  go_enter Tryz.func31, Tryz.ntmps31
  go_wp2_with fail
  refine (wlen_any b v q tk w H.out).mono ?_
  rintro e w' ⟨rfl, rfl⟩
  go_wp2_with fail
  refine (upToByte_any _ q.length rfl _ (by omega)).mono ?_
  rintro e w' ⟨rfl, rfl⟩
  go_wp2_with fail
  refine (put_any b v q tk 0 ((8 - q.length % 8) % 8) w H.out (by omega) (Nat.two_pow_pos _) hq).mono ?_
  rintro e w' ⟨rfl, hp⟩
  have HP := Lib.hid hp
  clear hp
  go_wp2_with fail
  go_end0
  exact ⟨rfl, HP.out⟩
/-! ### The reader -/
/-- v is a row of bytes l, with room behind it that may be written. -/
def IsRowB (w : World) (v : Value) (l : List UInt8) : Prop :=
  (v = .slice none 0 0 ∧ l = []) ∨ ∃ g off cap, v = .slice (some ⟨g, off, none⟩) l.length cap ∧ g < w.heap.size ∧ l.length ≤ cap ∧ cap ≤ maxLen ∧
    (∀ (i : Nat) (x : UInt8), l[i]? = some x → w.cell? ⟨g, off + i, none⟩ = some (u8v x)) ∧ (∀ i, i < cap → ∃ n, w.cell? ⟨g, off + i, none⟩ = some (.int .u8 n)) ∧ (∀ i, i < cap → w.frozen? ⟨g, off + i, none⟩ = false)
/-- Block b is a reader: the bytes l are kept, dr ahead of them were forgotten, p is the place. -/
def IsReader (w : World) (b : Nat) (v : Value) (l : List UInt8) (dr sp p : Nat) : Prop :=
  w.heap[b]? = some (.cells #[v, .int .i64 (dr : Int), .int .i64 (sp : Int), .int .i64 (p : Int)] 84 (0, 0)) ∧ IsRowB w v l ∧ (∀ k, v.ownBlock = some k → b ≠ k) ∧ 8 * dr ≤ p ∧ p ≤ 8 * (dr + l.length)
theorem IsReader.cells {w : World} {b : Nat} {v : Value} {l : List UInt8} {dr sp p : Nat} (h : IsReader w b v l dr sp p) :
    w.cell? ⟨b, 0, none⟩ = some v ∧ w.cell? ⟨b, 1, none⟩ = some (.int .i64 (dr : Int)) ∧ w.cell? ⟨b, 2, none⟩ = some (.int .i64 (sp : Int)) ∧ w.cell? ⟨b, 3, none⟩ = some (.int .i64 (p : Int)) ∧
    w.frozen? ⟨b, 0, none⟩ = false ∧ w.frozen? ⟨b, 1, none⟩ = false ∧ w.frozen? ⟨b, 2, none⟩ = false ∧ w.frozen? ⟨b, 3, none⟩ = false := by
  have h := h.1
  refine ⟨?_, ?_, ?_, ?_, frozen_of_row _ _ _ _ _ h, frozen_of_row _ _ _ _ _ h, frozen_of_row _ _ _ _ _ h, frozen_of_row _ _ _ _ _ h⟩ <;> (rw [cell_of_row _ _ _ _ _ _ h]; rfl)
theorem IsRowB.slice {w : World} {v : Value} {l : List UInt8} (h : IsRowB w v l) : ∃ a cap, v = .slice a l.length cap ∧ l.length ≤ cap ∧ cap ≤ maxLen := by
  rcases h with ⟨rfl, rfl⟩ | ⟨g, off, cap, rfl, _, h1, h2, _⟩
  · exact ⟨none, 0, rfl, Nat.le_refl _, by decide⟩
  · exact ⟨_, cap, rfl, h1, h2⟩
theorem IsRowB.cell {w : World} {v : Value} {l : List UInt8} (h : IsRowB w v l) {i : Nat} {x : UInt8} (hx : l[i]? = some x) : ∃ g off cap, v = .slice (some ⟨g, off, none⟩) l.length cap ∧ w.cell? ⟨g, off + i, none⟩ = some (.int .u8 (x.toNat : Int)) := by
  rcases h with ⟨rfl, rfl⟩ | ⟨g, off, cap, rfl, hg, h1, h2, hc, _⟩
  · simp at hx
  · exact ⟨g, off, cap, rfl, hc i x hx⟩
theorem IsRowB.other {w w' : World} {v : Value} {l : List UInt8} (h : IsRowB w v l) (he : ∀ k, v.ownBlock = some k → w'.heap[k]? = w.heap[k]?) : IsRowB w' v l := by
  rcases h with h | ⟨g, off, cap, rfl, hg, h1, h2, hc, ha, hf⟩
  · exact Or.inl h
  · have e := he g rfl
    refine Or.inr ⟨g, off, cap, rfl, (Array.getElem?_eq_some_iff.1 (e.trans (Array.getElem?_eq_getElem hg))).1, h1, h2, fun i x hx => ?_, fun i hi => ?_, fun i hi => ?_⟩
    · rw [World.cell?_of_block (w := w) (a := ⟨g, off + i, none⟩) e]; exact hc i x hx
    · rw [World.cell?_of_block (w := w) (a := ⟨g, off + i, none⟩) e]; exact ha i hi
    · rw [World.frozen?_of_block (w := w) (a := ⟨g, off + i, none⟩) e]; exact hf i hi
theorem IsRowB.lt {w : World} {v : Value} {l : List UInt8} (h : IsRowB w v l) : ∀ k, v.ownBlock = some k → k < w.heap.size := by
  intro k hk
  rcases h with ⟨rfl, _⟩ | ⟨g, off, cap, rfl, hg, r⟩
  · simp [Value.ownBlock] at hk
  · simp [Value.ownBlock] at hk
    subst hk
    exact hg
theorem IsReader.lt {w : World} {b : Nat} {v : Value} {l : List UInt8} {dr sp p : Nat} (h : IsReader w b v l dr sp p) : ∀ k, foot b v k → k < w.heap.size := by
  intro k hk
  rcases hk with rfl | hk
  · exact (Array.getElem?_eq_some_iff.1 h.1).1
  · exact h.2.1.lt k hk
theorem IsReader.other {w w' : World} {b : Nat} {v : Value} {l : List UInt8} {dr sp p : Nat} (h : IsReader w b v l dr sp p) {S : Nat → Prop} (ht : Touch S w w') (hS : ∀ k, foot b v k → ¬ S k) : IsReader w' b v l dr sp p :=
  ⟨(ht.block b (h.lt b (Or.inl rfl)) (hS b (Or.inl rfl))).trans h.1, h.2.1.other (fun k hk => ht.block k (h.lt k (Or.inr hk)) (hS k (Or.inr hk))), h.2.2⟩
/-- The place goes on. -/
theorem IsReader.at_ {w : World} {b : Nat} {v : Value} {l : List UInt8} {dr sp p : Nat} (h : IsReader w b v l dr sp p) (q : Nat) (h1 : 8 * dr ≤ q) (h2 : q ≤ 8 * (dr + l.length)) (Q : Int) (hQ : Q = (q : Int)) :
    IsReader (w.setCell ⟨b, 3, none⟩ (.int .i64 Q)) b v l dr sp q ∧ Touch (· = b) w (w.setCell ⟨b, 3, none⟩ (.int .i64 Q)) := by
  subst hQ
  exact ⟨⟨heap_setCell_same _ _ 3 _ _ _ h.1, h.2.1.other (fun k hk => heap_setCell_other _ _ _ _ (fun e => h.2.2.1 k hk e.symm)), h.2.2.1, h1, h2⟩, Touch.setCell (S := (· = b)) (Touch.refl _ _) (Or.inl rfl) _⟩
set_option maxHeartbeats 400000 in
theorem rat_any (b : Nat) (v : Value) (l : List UInt8) (dr sp p : Nat) (w : World) (h : IsReader w b v l dr sp p) : Calls Tryz.prog 17 #[.pointer (some ⟨b, 0, none⟩)] w fun e w' => e = .returned (.int .i64 (p : Int)) ∧ w = w' := by
  obtain ⟨c0, c1, c2, c3, f0, f1, f2, f3⟩ := h.cells
  clear h
  go_enter Tryz.func17, Tryz.ntmps17
  go_wp2
  go_ret
  exact ⟨rfl, rfl⟩
set_option maxHeartbeats 400000 in
theorem rend_any (b : Nat) (v : Value) (l : List UInt8) (dr sp p E : Nat) (w : World) (h : IsReader w b v l dr sp p) (hs : dr + l.length ≤ 1099511627776) (hE : 8 * (dr + l.length) = E) :
    Calls Tryz.prog 53 #[.pointer (some ⟨b, 0, none⟩)] w fun e w' => e = .returned (.int .i64 (E : Int)) ∧ ∃ n, w' = w.drewN n := by
  obtain ⟨c0, c1, c2, c3, f0, f1, f2, f3⟩ := h.cells
  obtain ⟨a, cap, rfl, _, _⟩ := h.2.1.slice
  clear h
  have hb1 : (dr : Int) ≤ 1099511627776 := by omega
  have hb2 : (l.length : Int) ≤ 1099511627776 := by omega
  have HE := Lib.hid (show (8 : Int) * ((dr : Int) + (l.length : Int)) = (E : Int) by omega)
  clear hE
  go_enter Tryz.func53, Tryz.ntmps53
  go_wp2_with fail
  go_quiet (fail)
  go_wp2_with fail
  go_ret
  rw [HE.out]
  exact ⟨rfl, _, rfl⟩
theorem IsReader.drewN {w : World} {b : Nat} {v : Value} {l : List UInt8} {dr sp p : Nat} (h : IsReader w b v l dr sp p) (n : Nat) : IsReader (w.drewN n) b v l dr sp p :=
  h.other (touch_drewN (fun _ => False) w n) (fun _ _ hf => hf)
set_option maxHeartbeats 400000 in
theorem rleft_any (b : Nat) (v : Value) (l : List UInt8) (dr sp p L : Nat) (w : World) (h : IsReader w b v l dr sp p) (hs : dr + l.length ≤ 1099511627776) (hL : 8 * (dr + l.length) - p = L) :
    Calls Tryz.prog 197 #[.pointer (some ⟨b, 0, none⟩)] w fun e w' => e = .returned (.int .i64 (L : Int)) ∧ ∃ n, w' = w.drewN n := by
  obtain ⟨c0, c1, c2, c3, f0, f1, f2, f3⟩ := h.cells
  have h1 := h.2.2.2.1
  have h2 := h.2.2.2.2
  have H := Lib.hid h
  obtain ⟨E, hE⟩ : ∃ E, 8 * (dr + l.length) = E := ⟨_, rfl⟩
  have hb1 : (E : Int) ≤ 8796093022208 := by omega
  have hb2 : (p : Int) ≤ (E : Int) := by omega
  have hb3 : (0 : Int) ≤ p := by omega
  have HE := Lib.hid (show (E : Int) - (p : Int) = (L : Int) by omega)
  have HEE := Lib.hid hE
  clear h hE hL h1 h2
  go_enter Tryz.func197, Tryz.ntmps197
  go_wp2_with fail
  go_quiet ((go_at_call 53; exact Calls.quiet_of (rend_any b v l dr sp p E _ (H.out.drewN _) hs HEE.out)))
  go_wp2_with fail
  go_ret
  rw [HE.out]
  exact ⟨rfl, _, rfl⟩
theorem or8_code (V x : Nat) (hV : V < 2 ^ 32) (hx : x < 256) : bits BinOp.or IntKind.u64 (IntKind.u64.wrap ((V : Int) * 256)) (x : Int) = ((V * 256 + x : Nat) : Int) := by
  have e : IntKind.u64.wrap ((V : Int) * 256) = ((V * 256 : Nat) : Int) := by
    simp only [IntKind.wrap, IntKind.bits, IntKind.signed]
    simp
    omega
  rw [e, u64_or_nat _ _ (by omega) (by omega), nat_join 8 _ _ (by omega) (by omega)]
theorem get_code (V u n : Nat) (hV : V < 2 ^ 40) (hn : n ≤ 32) : bits BinOp.and IntKind.u64 ((V : Int) / 2 ^ u) (IntKind.u64.wrap (IntKind.u64.wrap (2 ^ n) - 1)) % 4294967296 = ((V / 2 ^ u % 2 ^ n : Nat) : Int) := by
  have h32 : 2 ^ n ≤ 2 ^ 32 := Nat.pow_le_pow_right (by omega) hn
  have h1 : 1 ≤ 2 ^ n := Nat.two_pow_pos n
  have e0 : (V : Int) / 2 ^ u = ((V / 2 ^ u : Nat) : Int) := by simp
  have hVu : V / 2 ^ u ≤ V := Nat.div_le_self _ _
  have e1 : (2 : Int) ^ n = ((2 ^ n : Nat) : Int) := by simp
  have e2 : IntKind.u64.wrap (IntKind.u64.wrap ((2 ^ n : Nat) : Int) - 1) = ((2 ^ n - 1 : Nat) : Int) := by
    generalize 2 ^ n = z at *
    simp only [IntKind.wrap, IntKind.bits, IntKind.signed]
    simp
    omega
  rw [e0, e1, e2, u64_and_nat _ _ (by omega) (by omega), Nat.and_two_pow_sub_one_eq_mod]
  have hm : V / 2 ^ u % 2 ^ n < 2 ^ n := Nat.mod_lt _ (by omega)
  omega
theorem sub_lt5 (sub : List UInt8) (h : sub.length ≤ 5) : num (bitsOf sub) < 2 ^ 40 := by
  refine Nat.lt_of_lt_of_le (num_lt _) (Nat.pow_le_pow_right (by omega) ?_)
  rw [bitsOf_length]; omega
theorem sub_lt (sub : List UInt8) (k : Nat) (hk : k ≤ 4) : num (bitsOf (sub.take k)) < 2 ^ 32 := by
  refine Nat.lt_of_lt_of_le (num_lt _) (Nat.pow_le_pow_right (by omega) ?_)
  rw [bitsOf_length, List.length_take]; omega
set_option maxHeartbeats 400000 in
theorem field_any (b : Nat) (v : Value) (l : List UInt8) (dr sp p n : Nat) (w : World) (h : IsReader w b v l dr sp p) (hs : dr + l.length ≤ 1099511627776) (hn : n ≤ 32) (hp : p + n ≤ 8 * (dr + l.length)) :
    Calls Tryz.prog 239 #[.pointer (some ⟨b, 0, none⟩), .int .i64 (n : Int)] w fun e w' => e = .returned (.int .u32 (num (((bitsOf l).drop (p - 8 * dr)).take n) : Int)) ∧ ∃ n, w' = w.drewN n := by
  obtain ⟨c0, c1, c2, c3, f0, f1, f2, f3⟩ := h.cells
  have h1 := h.2.2.2.1
  have HR := Lib.hid h.2.1
  obtain ⟨a, cap, hv, hcap, hcm⟩ := h.2.1.slice
  unfold maxLen at hcm
  obtain ⟨fr, hfr⟩ : ∃ fr, p - 8 * dr = fr := ⟨_, rfl⟩
  rw [hfr]
  have hf0 : (p : Int) - 8 * (dr : Int) = (fr : Int) := by omega
  have hb1 : (dr : Int) ≤ 1099511627776 := by omega
  have hb2 : (p : Int) ≤ 17592186044416 := by omega
  have hft : fr + n ≤ 8 * l.length := by omega
  clear h h1 hp hfr
  subst hv
  have hsub : ((l.drop (fr / 8)).take ((fr + n + 7) / 8 - fr / 8)).length = (fr + n + 7) / 8 - fr / 8 := by simp; omega
  have HM := Lib.hid (get_math l fr n hft)
  generalize hs0 : (l.drop (fr / 8)).take ((fr + n + 7) / 8 - fr / 8) = sub at *
  have HS0 := Lib.hid hs0
  have hcnt : (fr + n + 7) / 8 - fr / 8 ≤ 5 := by omega
  have HSUB := Lib.hid hsub
  clear hs0 hsub
  by_cases hcf : cap = fr / 8
  · have hc0 : (fr + n + 7) / 8 - fr / 8 = 0 := by omega
    go_enter Tryz.func239, Tryz.ntmps239
    go_wp2_with fail
    go_quiet (fail)
    go_wp2_with fail
    go_loop [7, 9, 34] (fun v _ i => ∃ k : Nat, k ≤ (fr + n + 7) / 8 - fr / 8 ∧ i = .int .i64 k ∧ v = .int .u64 (num (bitsOf (sub.take k)) : Int)) (fun _ _ i => ((fr + n + 7) / 8 - fr / 8) - (intOf i).toNat)
    case atStart => exact ⟨0, by omega, rfl, rfl⟩
    case round =>
      obtain ⟨k, hk, rfl, rfl⟩ := hrel
      by_cases hlt : k < (fr + n + 7) / 8 - fr / 8
      · exfalso; omega
      · obtain rfl : k = (fr + n + 7) / 8 - fr / 8 := by omega
        go_wp2_with fail
        refine (upToByte_any _ (fr + n) (by omega) _ (by omega)).mono ?_
        rintro e w' ⟨rfl, rfl⟩
        go_wp2_with fail
        go_ret
        have hs0 : sub = [] := List.eq_nil_of_length_eq_zero (HSUB.out.trans hc0)
        have hm := HM.out
        rw [hs0] at hm
        rw [get_code _ _ _ (sub_lt5 [] (by decide)) hn, hm]
        exact ⟨rfl, _, rfl⟩
  · go_enter Tryz.func239, Tryz.ntmps239
    go_wp2_with fail
    go_quiet (fail)
    go_wp2_with fail
    go_loop [7, 9, 34] (fun v _ i => ∃ k : Nat, k ≤ (fr + n + 7) / 8 - fr / 8 ∧ i = .int .i64 k ∧ v = .int .u64 (num (bitsOf (sub.take k)) : Int)) (fun _ _ i => ((fr + n + 7) / 8 - fr / 8) - (intOf i).toNat)
    case atStart => exact ⟨0, by omega, rfl, rfl⟩
    case round =>
      obtain ⟨k, hk, rfl, rfl⟩ := hrel
      by_cases hlt : k < (fr + n + 7) / 8 - fr / 8
      · have hx : ∃ x, sub[k]? = some x := ⟨sub[k]'(by have := HSUB.out; omega), List.getElem?_eq_getElem _⟩
        obtain ⟨x, hx⟩ := hx
        have hx2 : l[fr / 8 + k]? = some x := by
          have := hx
          rw [← HS0.out, List.getElem?_take, if_pos hlt, List.getElem?_drop] at this
          exact this
        obtain ⟨g, off, cap2, hv2, hc2⟩ := HR.out.cell hx2
        simp only [Value.slice.injEq] at hv2
        obtain ⟨rfl, _, _⟩ := hv2
        rw [← Nat.add_assoc] at hc2
        have HT : Hid (num (bitsOf (sub.take (k + 1))) = num (bitsOf (sub.take k)) * 256 + x.toNat) := by
          obtain ⟨hk1, hk2⟩ := List.getElem?_eq_some_iff.1 hx
          rw [List.take_succ_eq_append_getElem hk1, num_bitsOf_snoc, hk2]
          rfl
        have hxl := x.toNat_lt
        clear hx hx2
        go_wp2_with fail
        go_round
        case rel =>
          refine ⟨k + 1, by omega, by go_num, ?_⟩
          rw [or8_code _ _ (sub_lt sub k (by omega)) hxl, HT.out]
        case measure => simp [intOf]; omega
      · obtain rfl : k = (fr + n + 7) / 8 - fr / 8 := by omega
        go_wp2_with fail
        refine (upToByte_any _ (fr + n) (by omega) _ (by omega)).mono ?_
        rintro e w' ⟨rfl, rfl⟩
        go_wp2_with fail
        go_ret
        have hl5 : sub.length ≤ 5 := by rw [HSUB.out]; exact hcnt
        rw [List.take_of_length_le (Nat.le_of_eq HSUB.out), get_code _ _ _ (sub_lt5 sub hl5) hn, HM.out]
        exact ⟨rfl, _, rfl⟩

set_option maxHeartbeats 400000 in
theorem get_any (b : Nat) (v : Value) (l : List UInt8) (dr sp p n : Nat) (w : World) (h : IsReader w b v l dr sp p) (hs : dr + l.length ≤ 1099511627776) (hn : n ≤ 32) (hp : p + n ≤ 8 * (dr + l.length)) :
    Calls Tryz.prog 198 #[.pointer (some ⟨b, 0, none⟩), .int .i64 (n : Int)] w fun e w' =>
      e = .returned (.tuple #[.int .u32 (num (((bitsOf l).drop (p - 8 * dr)).take n) : Int), .int .i64 0]) ∧ IsReader w' b v l dr sp (p + n) ∧ Touch (· = b) w w' := by
  obtain ⟨c0, c1, c2, c3, f0, f1, f2, f3⟩ := h.cells
  obtain ⟨L, hL⟩ : ∃ L, 8 * (dr + l.length) - p = L := ⟨_, rfl⟩
  have hn1 : (n : Int) ≤ L := by omega
  have hpp : (p : Int) ≤ 8796093022208 := by omega
  have h8 : 8 * dr ≤ p := h.2.2.2.1
  have H := Lib.hid h
  have HL := Lib.hid hL
  clear h hL
  go_enter Tryz.func198, Tryz.ntmps198
  go_wp2_with fail
  refine (isLength_yes _ _ (by omega) (by omega)).mono ?_
  rintro e w' ⟨rfl, rfl⟩
  go_wp2_with fail
  refine (rleft_any b v l dr sp p L w H.out hs HL.out).mono ?_
  rintro e w' ⟨rfl, m, rfl⟩
  go_wp2_with fail
  refine (field_any b v l dr sp p n _ (H.out.drewN m) hs hn hp).mono ?_
  rintro e w' ⟨rfl, m2, rfl⟩
  go_wp2_with fail
  go_ret2
  obtain ⟨d1, d2⟩ := (H.out.drewN (m + m2)).at_ (p + n) (by omega) hp ((p : Int) + (n : Int)) (by omega)
  exact ⟨rfl, d1, (touch_drewN (· = b) w (m + m2)).trans d2 (fun i hi => Or.inl hi)⟩
set_option maxHeartbeats 400000 in
theorem get_short (b : Nat) (v : Value) (l : List UInt8) (dr sp p n : Nat) (w : World) (h : IsReader w b v l dr sp p) (hs : dr + l.length ≤ 1099511627776) (hn : n ≤ 32) (hp : 8 * (dr + l.length) < p + n) :
    Calls Tryz.prog 198 #[.pointer (some ⟨b, 0, none⟩), .int .i64 (n : Int)] w fun e w' => e = .returned (.tuple #[.int .u32 0, .int .i64 3]) ∧ ∃ m, w' = w.drewN m := by
  obtain ⟨L, hL⟩ : ∃ L, 8 * (dr + l.length) - p = L := ⟨_, rfl⟩
  have h2 := h.2.2.2.2
  have hn1 : (L : Int) < n := by omega
  have H := Lib.hid h
  have HL := Lib.hid hL
  clear h hL h2
  go_enter Tryz.func198, Tryz.ntmps198
  go_wp2_with fail
  refine (isLength_yes _ _ (by omega) (by omega)).mono ?_
  rintro e w' ⟨rfl, rfl⟩
  go_wp2_with fail
  refine (rleft_any b v l dr sp p L w H.out hs HL.out).mono ?_
  rintro e w' ⟨rfl, m, rfl⟩
  go_wp2_with fail
  go_ret2
  exact ⟨rfl, m, rfl⟩
set_option maxHeartbeats 400000 in
theorem newReader_any (s : ByteArray) (w : World) (hs : s.size ≤ maxLen) :
    Calls Tryz.prog 13 #[.string s] w fun e w' => ∃ b v, e = .returned (.pointer (some ⟨b, 0, none⟩)) ∧ IsReader w' b v s.data.toList 0 0 0 ∧ Below w.heap.size w w' ∧ (∀ k, foot b v k → w.heap.size ≤ k) := by
  have hcv := run_bytes_of_string (P := Tryz.prog) w 9 82 5 s Tryz.underlying9 Tryz.underlying82 Tryz.underlying5
  have hge := grownCap_ge w s.size 0 5
  have hle := grownCap_le_maxLen w s.size 0 5 hs
  have hsz : (bytesRow s (grownCap w s.size 0 5)).size = grownCap w s.size 0 5 := by
    have : s.data.size = s.size := rfl
    simp [bytesRow]; omega
  have HB : Hid (∀ i, i < grownCap w s.size 0 5 → ∃ n, (bytesRow s (grownCap w s.size 0 5))[i]? = some (.int .u8 n)) := Lib.hid fun i hi => by
    by_cases h : i < s.data.size
    · exact ⟨_, bytesRow_at s _ i h⟩
    · refine ⟨0, ?_⟩
      have e : s.data.size = s.size := rfl
      unfold bytesRow
      rw [Array.getElem?_append_right (by simp; omega), Array.getElem?_replicate, if_pos (by rw [Array.size_map, e]; omega)]
  generalize grownCap w s.size 0 5 = C at *
  have HBA : Hid (∀ (i : Nat) (x : UInt8), s.data.toList[i]? = some x → (bytesRow s C)[i]? = some (u8v x)) := Lib.hid fun i x hx => by
    obtain ⟨hi, rfl⟩ := List.getElem?_eq_some_iff.1 hx
    exact bytesRow_at s _ i (by simpa using hi)
  generalize bytesRow s C = R at *
  have HGE := Lib.hid hge
  have HLE := Lib.hid hle
  have HSZ := Lib.hid hsz
  clear hge hle hsz
  go_enter Tryz.func13, Tryz.ntmps13
  go_wp2_with fail
  go_ret
  have e : s.data.toList.length = s.size := rfl
  have ho := heap_alloc2_old w (.cells R 5 (R.size, R.size + 1)) (.cells #[.slice (some ⟨w.heap.size, 0, none⟩) s.size C, .int .i64 0, .int .i64 0, .int .i64 0] 84)
  refine ⟨w.heap.size + 1, .slice (some ⟨w.heap.size, 0, none⟩) s.size C, rfl, ⟨heap_alloc2_new _ _ _, Or.inr ⟨w.heap.size, 0, C, rfl, (Array.getElem?_eq_some_iff.1 ho).1, by rw [e]; exact HGE.out, HLE.out, fun i x hx => ?_, fun i hi => ?_, fun i hi => ?_⟩, ?_, by omega, by omega⟩, ?_, ?_⟩
  · exact (cell_of_row _ _ _ _ _ _ ho).trans (by rw [Nat.zero_add]; exact HBA.out i x hx)
  · exact (HB.out i hi).imp fun n hn => (cell_of_row _ _ _ _ _ _ ho).trans (by rw [Nat.zero_add]; exact hn)
  · have hi2 : i < R.size := by rw [HSZ.out]; exact hi
    refine Eq.trans (b := decide (R.size ≤ 0 + i) && decide (0 + i < R.size + 1)) ?_ (by simp; omega)
    have hx : ∀ (X : World), X.heap[w.heap.size]? = some (.cells R 5 (R.size, R.size + 1)) → X.frozen? ⟨w.heap.size, 0 + i, none⟩ = (decide (R.size ≤ 0 + i) && decide (0 + i < R.size + 1)) := fun X hX => by
      unfold World.frozen?
      rw [hX]
    exact hx _ ho
  · intro k hk
    simp [Value.ownBlock] at hk
    omega
  · exact (((Below.refl _ _).alloc (Nat.le_refl _) _).alloc (by simp) _).drew
  · intro k hk
    rcases hk with rfl | hk
    · omega
    · simp [Value.ownBlock] at hk; omega
end Go.Proofs.YtojphcoghbiepaaGreatDoor

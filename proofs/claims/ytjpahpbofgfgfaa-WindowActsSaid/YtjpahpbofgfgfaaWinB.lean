/-
  LAYER 28 (package window): New; what a meter tells.
-/
import Derived.Test.YtjpahpbofgfgfaaWinA
namespace Go.Proofs.Ytjpahpbofgfgfaa
open Go.RowKit
set_option linter.unusedVariables false
set_option linter.unusedSimpArgs false
def wdMay (S : Int) (zs : List Int) : Prop := (1 ≤ S ∧ S ≤ 1048576) ∧ lgMay zs
theorem wpList_build_two {P : Program} {ops : Array Oper} {rest : List Oper} {o : Oper} {a : Act} {w : World} {Q : Exit → Act → World → Prop} (hg : o.guard = none) (t : TypeId) (n m : Nat) (y z : Operand) (ho : o.op = .build t #[(n, y), (m, z)]) (v u : Value) (hy : a.eval y = v) (hz : a.eval z = u) (Z : Array Value)
    (hb : P.built t [(n, v), (m, u)] = some Z) (h : wpList P ops Q rest (a.put o.dst (.agg Z)) w) : wpList P ops Q (o :: rest) a w := by
  subst hy
  subst hz
  refine wpList_build hg t #[(n, y), (m, z)] ho ?_ ?_
  · simp [hb]
  · simpa [hb] using h
def mtZ (S : Int) (v : Value) : Array Value := cellsF 35 (mtF S 0 v zeroF zeroF)
theorem mt_built (S : Int) (a : Option Addr) (n c : Nat) : Try.prog.built 79 [(0, .int .i64 S), (2, .slice a n c)] = some (mtZ S (.slice a n c)) := by kernel_rfl
/-- What New makes. -/
def WdNewP (w w' : World) (S : Int) (zs : List Int) (e : Ending) : Prop :=
  ∃ b v, e = .returned (.tuple #[.pointer (some ⟨b, 0, none⟩), .int .i64 0]) ∧ IsMt w.heap.size w' b v zs S 0 zeroF zeroF ∧ Below w.heap.size w w'
set_option maxRecDepth 100000 in
set_option maxHeartbeats 4000000 in
theorem wdnew_any (S : Int) (v : Value) (zs : List Int) (w : World) (hI : IsInts w v zs) (hm : wdMay S zs) :
    Calls Try.prog 26 #[.int .i64 S, v] w fun e w' => WdNewP w w' S zs e := by
  obtain ⟨⟨s1, s2⟩, h1, h16, hok⟩ := hm
  have HC := Lib.hid (containsFunc_any 49 #[] lgBad v zs w hI (by omega) wdbad_enters (fun x W => wdbad_any x W))
  rw [any_bad_false.2 hok] at HC
  obtain ⟨bz, oz, cz, rfl, _⟩ := hI.cell (k := 0) (by omega)
  have HCL := Lib.hid (clone_any bz oz zs.length cz zs w hI (by omega))
  have k0 : ¬ S < 1 := by omega
  have k00 : ¬ S > 1048576 := by omega
  obtain ⟨N, hN⟩ : ∃ N, zs.length = N := ⟨_, rfl⟩
  have HN := Lib.hid hN
  rw [hN] at HC HCL h1 h16
  have e0 : Value.slice (some ⟨bz, oz, none⟩) zs.length cz = .slice (some ⟨bz, oz, none⟩) N cz := by rw [hN]
  rw [e0]
  have k1 : ((N : Int) == 0) = false := by rw [beq_eq_false_iff_ne]; omega
  have k2 : ¬ (N : Int) > 16 := by omega
  clear hok hI hN e0
  go_enter Try.func26, Try.ntmps26
  go_wp2_with fail
  refine HC.out.mono ?_
  rintro e w2 ⟨rfl, rfl⟩
  go_wp2_with fail
  refine HCL.out.mono ?_
  rintro e w3 ⟨v3, rfl, hO, hB⟩
  have HO := Lib.hid hO
  have HB := Lib.hid hB
  obtain ⟨a3, c3, rfl⟩ := hO.slice
  have HE : Hid (WdNewP w2 (w3.alloc (.cells (mtZ S (.slice a3 zs.length c3)) 79)) S zs (.returned (.tuple #[.pointer (some ⟨w3.heap.size, 0, none⟩), .int .i64 0]))) := Lib.hid
    ⟨_, _, rfl, ⟨heap_alloc_new _ _, hO.alloc _, fun e => by have := (hO.lt _ e).2; omega, hB.size⟩, hB.alloc hB.size _⟩
  clear hO hB
  go_wp2_with (refine wpList_build_two rfl 79 0 2 _ _ rfl _ _ rfl rfl (mtZ S (.slice a3 zs.length c3)) (mt_built S a3 zs.length c3) ?_)
  go_ret2
  exact HE.out
end Go.Proofs.Ytjpahpbofgfgfaa

/-
  LAYER 1's STATEMENTS: what is put is got.
-/
import Derived.Test.YthkgkhpfahippaaBitsRef
namespace Go.Proofs.Ythkgkhpfahippaa
open Go.RowKit BitM
set_option linter.unusedVariables false
/-- Something that is done with a writer or a reader. -/
structure OpR where
  K : Int
  N : Int
  V : Nat
  S : ByteArray
def OpR.cells (o : OpR) : List Value := [.int .i64 o.K, .int .i64 o.N, .int .u32 (o.V : Int), .string o.S]
structure OpR.Ok (o : OpR) : Prop where
  n1 : -9223372036854775808 ≤ o.N
  n2 : o.N ≤ 9223372036854775807
  v : o.V < 4294967296
  s : o.S.size ≤ maxLen
/-- WHAT A WALK IS TOLD OF A ROW OF OPERATIONS THAT CAME IN. -/
def IsOps (w : World) (a : Option Addr) (len : Nat) (l : List OpR) : Prop := Opn.IsElems w a len 4 OpR.cells l ∧ (∀ x ∈ l, OpR.Ok x) ∧ len ≤ maxLen
/-- One of them, in a world above. -/
theorem IsOps.at_ {w w' : World} {a : Option Addr} {len : Nat} {l : List OpR} (h : IsOps w a len l) (hb : Below w.heap.size w w') {k : Nat} (hk : k < len) : ∃ o b off, l[k]? = some o ∧ OpR.Ok o ∧ a = some ⟨b, off, none⟩ ∧
    w'.cell? ⟨b, off + k * 4, none⟩ = some (.int .i64 o.K) ∧ w'.cell? ⟨b, off + k * 4 + 1, none⟩ = some (.int .i64 o.N) ∧ w'.cell? ⟨b, off + k * 4 + 2, none⟩ = some (.int .u32 (o.V : Int)) ∧ w'.cell? ⟨b, off + k * 4 + 3, none⟩ = some (.string o.S) := by
  obtain ⟨⟨hl, he⟩, hok, _⟩ := h
  have hx : l[k]? = some (l[k]'(by omega)) := List.getElem?_eq_getElem _
  obtain ⟨b, off, ha, hlt, hc⟩ := he k _ hx
  refine ⟨_, b, off, hx, hok _ (List.getElem_mem _), ha, ?_, ?_, ?_, ?_⟩
  · exact (hb.cell (p := ⟨b, off + k * 4, none⟩) hlt).trans (hc 0 _ rfl)
  · exact (hb.cell (p := ⟨b, off + k * 4 + 1, none⟩) hlt).trans (hc 1 _ rfl)
  · exact (hb.cell (p := ⟨b, off + k * 4 + 2, none⟩) hlt).trans (hc 2 _ rfl)
  · exact (hb.cell (p := ⟨b, off + k * 4 + 3, none⟩) hlt).trans (hc 3 _ rfl)
def sizes (l : List OpR) : Nat := (l.map fun o => o.S.size).foldl (· + ·) 0
theorem sizes_snoc (l : List OpR) (o : OpR) : sizes (l ++ [o]) = sizes l + o.S.size := by simp [sizes]
set_option maxRecDepth 100000 in
set_option maxHeartbeats 1000000 in
theorem large_any (a : Option Addr) (len cap : Nat) (l : List OpR) (w : World) (h : IsOps w a len l) :
    Calls Try.prog 15 #[.slice a len cap] w fun e w' => ∃ bb, e = .returned (.bool bb) ∧ Below w.heap.size w w' ∧ (bb = false → len ≤ 60 ∧ (∀ (k : Nat) (o : OpR), l[k]? = some o → o.S.size ≤ 100) ∧ sizes l ≤ 200) := by
  have H := Lib.hid h
  have hmax := h.2.2
  unfold maxLen at hmax
  clear h
  by_cases h60 : (60 : Int) < len
  · go_enter Try.func15, Try.ntmps15
    go_wp2_with fail
    go_ret
    exact ⟨true, rfl, Below.refl _ _, fun e => by cases e⟩
  · go_enter Try.func15, Try.ntmps15
    go_wp2_with fail
    go_loopw [3, 5, 11] (fun n _ i wr => ∃ k : Nat, k ≤ len ∧ i = .int .i64 k ∧ n = .int .i64 (sizes (l.take k) : Int) ∧ (sizes (l.take k) : Int) ≤ 100 * k ∧ (∀ (j : Nat) (o : OpR), j < k → l[j]? = some o → o.S.size ≤ 100) ∧ Below w.heap.size w wr) (fun _ _ i _ => len - (intOf i).toNat)
    case atStart => exact ⟨0, by omega, rfl, rfl, by simp [sizes], fun j o hj => by omega, Below.refl _ _⟩
    case round =>
      obtain ⟨k, hk, rfl, rfl, hn, hs, hB⟩ := hrel
      have HB := Lib.hid hB
      have HS := Lib.hid hs
      clear hB hs
      by_cases hlt : k < len
      · obtain ⟨o, b, off, ho, hok, rfl, c0, c1, c2, c3⟩ := H.out.at_ HB.out hlt
        have hos := hok.s
        unfold maxLen at hos
        have HO := Lib.hid ho
        clear hok
        have HT : Hid (sizes (l.take (k + 1)) = sizes (l.take k) + o.S.size) := Lib.hid (by rw [List.take_add_one, ho]; simp [sizes_snoc])
        clear ho
        by_cases hbig : (100 : Int) < o.S.size
        · go_wp2_with fail
          go_ret
          exact ⟨true, rfl, HB.out.alloc HB.out.size _, fun e => by cases e⟩
        · go_wp2_with fail
          go_roundw
          case rel =>
            refine ⟨k + 1, by omega, by go_num, iv (by rw [HT.out]; omega), by rw [HT.out]; omega, fun j o2 hj ho2 => ?_, HB.out.alloc HB.out.size _⟩
            by_cases hjk : j = k
            · subst hjk
              have := HO.out
              rw [ho2] at this
              cases this
              omega
            · exact HS.out j o2 (by omega) ho2
          case measure => simp [intOf]; omega
      · obtain rfl : k = len := by omega
        have hl := H.out.1.1
        have HF : Hid (l.take k = l) := Lib.hid (List.take_of_length_le (by omega))
        by_cases h2 : (200 : Int) < sizes (l.take k)
        · go_wp2_with fail
          go_ret
          exact ⟨true, rfl, HB.out, fun e => by cases e⟩
        · go_wp2_with fail
          go_ret
          refine Or.inl ⟨rfl, HB.out, by omega, fun j o ho => HS.out j o ?_ ho, ?_⟩
          · have := (List.getElem?_eq_some_iff.1 ho).1; omega
          · rw [HF.out] at h2; omega
end Go.Proofs.Ythkgkhpfahippaa

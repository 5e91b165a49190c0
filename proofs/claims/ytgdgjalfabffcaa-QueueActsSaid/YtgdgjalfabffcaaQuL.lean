/-
  LAYER 29's STATEMENTS: QueueActs.
-/
import Derived.Test.YtgdgjalfabffcaaQuK
import Derived.Deep.RegionHeld3
namespace Go.Proofs.Ytgdgjalfabffcaa
open Go.ChangeShapes Go.WideShapes Go.ChangeAt Go.RowKit Go.Deep
set_option linter.unusedVariables false
set_option linter.unusedSimpArgs false
/-- A queue, and the document's list, which lie apart. -/
structure QB (w0 w : World) (b : Nat) (lim : Int) (zs : List Int) (u : Value) : Prop where
  ex : ∃ v, IsQ w w0.heap.size b lim v zs ∧ (∀ k, u.ownBlock = some k → ¬ foot b v k)
  row : IsL w u zs
  below : Below w0.heap.size w0 w
/-- Between the document's act and the program's: the document's list is ahead. -/
structure QMid (w0 w : World) (b : Nat) (lim : Int) (zs ys : List Int) (u : Value) (P G : Nat) : Prop where
  ex : ∃ v, IsQ w w0.heap.size b lim v zs ∧ (∀ k, u.ownBlock = some k → ¬ foot b v k) ∧ ¬ foot b v P ∧ ¬ foot b v G
  row : IsL w u ys
  below : Below w0.heap.size w0 w
  lt : P < w.heap.size ∧ G < w.heap.size
section
variable {w0 w w' : World} {b : Nat} {lim : Int} {zs ys : List Int} {u : Value}
theorem QB.qat (h : QB w0 w b lim zs u) : QAt w0 w b lim zs := by
  obtain ⟨⟨v, h1, _⟩, _, h3⟩ := h
  exact ⟨⟨v, h1⟩, h3⟩
theorem QB.next (h : QB w0 w b lim zs u) (hb : Below w.heap.size w w') : QB w0 w' b lim zs u := by
  obtain ⟨⟨v, h1, h2⟩, h3, h4⟩ := h
  exact ⟨⟨v, h1.far hb, h2⟩, h3.below hb, h4.trans (hb.mono h4.size)⟩
theorem at_len (h : QAt w0 w b lim zs) : Calls Try.prog 17 #[.pointer (some ⟨b, 0, none⟩)] w fun e w' => e = .returned (.int .i64 (zs.length : Int)) ∧ w' = w := by
  obtain ⟨⟨v, h1⟩, h2⟩ := h
  exact qlen_any w h1
theorem at_has (n : Int) (h : QAt w0 w b lim zs) : Calls Try.prog 18 #[.pointer (some ⟨b, 0, none⟩), .int .i64 n] w fun e w' => e = .returned (.bool (decide (n ∈ zs))) ∧ w' = w := by
  obtain ⟨⟨v, h1⟩, h2⟩ := h
  exact qhas_any n w h1
theorem QMid.made {w4 w5 w6 : World} {u4 : Value} {P G : Nat} (h : QB w0 w4 b lim zs u4) (hi : IsL w5 u ys) (hb5 : Below w4.heap.size w4 w5) (ho : ∀ k, u.ownBlock = some k → u4.ownBlock = some k ∨ w4.heap.size ≤ k) (hb6 : Below w5.heap.size w5 w6)
    (hP : ∀ v, IsQ w4 w0.heap.size b lim v zs → ¬ foot b v P ∧ P < w5.heap.size) (hG : w5.heap.size = G) (hG6 : G < w6.heap.size) : QMid w0 w6 b lim zs ys u P G := by
  obtain ⟨⟨v, h1, h2⟩, h3, h4⟩ := h
  have hb46 := hb5.trans (hb6.mono hb5.size)
  have s5 := hb5.size
  refine ⟨⟨v, h1.far hb46, fun k hk hf => ?_, (hP v h1).1, fun hf => ?_⟩, hi.below hb6, h4.trans (hb46.mono h4.size), by have := (hP v h1).2; omega, hG6⟩
  · rcases ho k hk with e | e
    · exact h2 k e hf
    · have := (h1.lt k hf).2; omega
  · have := (h1.lt G hf).2; omega
theorem QMid.done {P G : Nat} (h : QMid w0 w b lim zs ys u P G) (K Z : Int) (hy : actL lim K Z zs = ys) : Calls Try.prog 14 #[.pointer (some ⟨b, 0, none⟩), .agg #[.int .i64 K, .int .i64 Z]] w fun e w' =>
    e = .returned (.tuple #[.int .i64 (actN K zs), .int .i64 (actE lim K Z zs)]) ∧ QB w0 w' b lim ys u ∧ (∀ k, k = G ∨ k = P → w'.heap[k]? = w.heap[k]?) := by
  obtain ⟨⟨v, h1, h2, h3, h4⟩, h5, h6, h7, h8⟩ := h
  refine (done29_any K Z w h1).mono fun e w' ⟨he, hq⟩ => ⟨he, ?_⟩
  rw [hy] at hq
  obtain ⟨v', a1, a2, a3, a4⟩ := hq.keeps h2 h5.lt
  refine ⟨⟨⟨v', a1, a2⟩, h5.same a4.size a3, h6.trans (a4.below h6.size (fun i hi => (h1.lt i hi).1))⟩, fun k hk => ?_⟩
  rcases hk with rfl | rfl
  · exact a4.block _ h8 h4
  · exact a4.block _ h7 h3
theorem QB.nodup (h : QB w0 w b lim zs u) : zs.Nodup := by
  obtain ⟨⟨v, h1, _⟩, _⟩ := h
  exact h1.nd
end
theorem actL_len (lim K Z : Int) (zs : List Int) : (actL lim K Z zs).length ≤ zs.length + 1 := by
  unfold actL
  split
  · exact pushL_len _ _ _
  · split
    · cases zs <;> simp [popL]; omega
    · split
      · have := without_len zs Z; omega
      · split
        · rw [DrrM.rotated_length]; omega
        · omega
set_option maxRecDepth 100000 in
set_option maxHeartbeats 16000000 in
theorem queueActs.main (lim : Int) (a : Option Addr) (len cap : Nat) (l : List Act2) (w : World) (hl : IsActs2 w a len l) : Calls Try.prog 3 #[.int .i64 lim, .slice a len cap] w fun e w' => e = .returned (.bool true) ∧ Below w.heap.size w w' := by
  have hml : len ≤ maxLen := hl.2.2
  unfold maxLen at hml
  have HL := Lib.hid hl
  clear hl
  by_cases h60 : (len : Int) > 60
  · have H9 := Lib.hid (three29_any w)
    go_enter Try.func3, Try.ntmps3
    go_wp2_with fail
    refine H9.out.mono ?_
    rintro e w1 ⟨rfl, hb⟩
    have HB := Lib.hid hb
    clear hb
    go_wp2_with fail
    go_ret
    exact ⟨rfl, HB.out⟩
  by_cases hlim : 1 ≤ lim ∧ lim ≤ 1099511627776
  · have HN := Lib.hid (at_new lim w hlim.1 hlim.2)
    have k1 : ¬ lim < 1 := by omega
    have k2 : ¬ lim > 1099511627776 := by omega
    clear hlim
    obtain ⟨B, hB⟩ : ∃ B, w.heap.size = B := ⟨_, rfl⟩
    rw [hB] at HN
    have HBW := Lib.hid hB
    clear hB
    go_enter Try.func3, Try.ntmps3
    go_wp2_with fail
    refine HN.out.mono ?_
    rintro e w1 ⟨rfl, h1⟩
    have H1 : Hid (QB w w1 B lim [] (.slice none 0 0)) := Lib.hid (by
      obtain ⟨⟨vq, q1⟩, q2⟩ := h1
      exact ⟨⟨vq, q1, fun k hk => by simp [Value.ownBlock] at hk⟩, IsL.nil _, q2⟩)
    clear h1 HN
    go_wp2_with fail
    go_loopw [7, 9, 10, 11, 12, 39] (fun vu _ _ _ _ vi wr => ∃ k : Nat, vi = .int .i64 (k : Int) ∧ k ≤ len ∧ Hid (∃ zs, QB w wr B lim zs vu ∧ zs.length ≤ k)) (fun _ _ _ _ _ vi _ => len - (intOf vi).toNat)
    case atStart => exact ⟨0, rfl, by omega, Lib.hid ⟨[], H1.out, Nat.le_refl _⟩⟩
    case round =>
      obtain ⟨k, rfl, hk, hq⟩ := hrel
      obtain ⟨zs, hq1, hq2⟩ := hq.out
      obtain ⟨au, cu, hu⟩ := hq1.row.shape
      obtain ⟨N, hN⟩ : ∃ N, zs.length = N := ⟨_, rfl⟩
      have HN := Lib.hid hN
      rw [hN] at hu hq2
      clear hN
      subst hu
      clear hq
      by_cases hlt : k < len
      · have hki : (k : Int) < (len : Int) := by omega
        obtain ⟨o, bl, ol, hx, hok, rfl, _, c0, c1⟩ := HL.out.at_ (hq1.below) hlt
        obtain ⟨K, Z⟩ := o
        dsimp only at c0 c1
        obtain ⟨P, hP⟩ : ∃ P, wr.heap.size = P := ⟨_, rfl⟩
        obtain ⟨w4, hw4⟩ : ∃ w4, wr.alloc (.cells #[.int .i64 K, .int .i64 Z] 30) = w4 := ⟨_, rfl⟩
        have hp4 : w4.heap[P]? = some (.cells #[.int .i64 K, .int .i64 Z] 30 (0, 0)) := by rw [← hw4, ← hP]; exact heap_alloc_new _ _
        have e0 : w4.cell? ⟨P, 0, none⟩ = some (.int .i64 K) := by rw [cell_of_row _ _ 0 _ _ _ hp4]; rfl
        have e1 : w4.cell? ⟨P, 1, none⟩ = some (.int .i64 Z) := by rw [cell_of_row _ _ 1 _ _ _ hp4]; rfl
        have hb4 : Below wr.heap.size wr w4 := by rw [← hw4]; exact (Below.refl _ _).alloc (Nat.le_refl _) _
        have HS4 : Hid (w4.heap.size = P + 1) := Lib.hid (by rw [← hw4, ← hP]; simp)
        have H4 := Lib.hid (hq1.next hb4)
        have HPF : Hid (∀ v, IsQ w4 w.heap.size B lim v zs → ¬ foot B v P) := Lib.hid (fun v hv hf => by
          obtain ⟨⟨v2, q1, _⟩, _⟩ := hq1
          have h2 : v = v2 := by
            have e1 := hv.obj
            have e2 := (q1.far hb4).obj
            rw [e1] at e2
            simp at e2
            exact e2
          subst h2
          have := (q1.lt P hf).2
          omega)
        have HP4 := Lib.hid hp4
        obtain ⟨zs', hZS⟩ : ∃ zs', actL lim K Z zs = zs' := ⟨_, rfl⟩
        obtain ⟨n, hEN⟩ : ∃ n, actN K zs = n := ⟨_, rfl⟩
        obtain ⟨er, hEE⟩ : ∃ er, actE lim K Z zs = er := ⟨_, rfl⟩
        have HAC := Lib.hid (ract29_any (.slice au N cu) zs lim K Z w4 H4.out.row H4.out.nodup (by rw [HN.out]; omega))
        rw [hZS, hEN, hEE] at HAC
        have HZL : Hid (zs'.length ≤ k + 1 ∧ zs'.length ≤ 61) := Lib.hid (by have := actL_len lim K Z zs; rw [hZS, HN.out] at this; omega)
        have HSS := Lib.hid (And.intro hZS (And.intro hEN hEE))
        have hpm := DrrM.place_mem zs' Z
        obtain ⟨R, hR⟩ : ∃ R, DrrM.place zs' Z = R := ⟨_, rfl⟩
        have HPR := Lib.hid hR
        rw [hR] at hpm
        clear hR hx hok hp4 hb4 hq1 hZS hEN hEE
        by_cases hm : Z ∈ zs'
        · have HMEM : Hid (decide (Z ∈ zs') = true) := Lib.hid (decide_eq_true hm)
          have hr : R ≥ 0 := hpm.2 hm
          clear hm hpm
          go_wp2_with fail
          refine HAC.out.mono ?_
          rintro e w5 ⟨a5, l5, c5, rfl, hi5, hb5, ho5⟩
          rw [show st3 a5 l5 c5 n er = #[.slice a5 l5 c5, .int .i64 n, .int .i64 er] from rfl]
          obtain ⟨G, hG⟩ : ∃ G, w5.heap.size = G := ⟨_, rfl⟩
          obtain ⟨w6, hw6⟩ : ∃ w6, w5.alloc (.cells #[.slice a5 l5 c5, .int .i64 n, .int .i64 er] 32) = w6 := ⟨_, rfl⟩
          have hb6 : Below w5.heap.size w5 w6 := by rw [← hw6]; exact (Below.refl _ _).alloc (Nat.le_refl _) _
          have hs6 : w6.heap.size = G + 1 := by rw [← hw6, ← hG]; simp
          have hg6 : w6.heap[G]? = some (.cells #[.slice a5 l5 c5, .int .i64 n, .int .i64 er] 32 (0, 0)) := by rw [← hw6, ← hG]; exact heap_alloc_new _ _
          have hp6 : w6.heap[P]? = some (.cells #[.int .i64 K, .int .i64 Z] 30 (0, 0)) := (hb6.block P (by have := hb5.size; have := HS4.out; omega)).trans ((hb5.block P (by have := HS4.out; omega)).trans HP4.out)
          have d0 : w6.cell? ⟨P, 0, none⟩ = some (.int .i64 K) := by rw [cell_of_row _ _ 0 _ _ _ hp6]; rfl
          have d1 : w6.cell? ⟨P, 1, none⟩ = some (.int .i64 Z) := by rw [cell_of_row _ _ 1 _ _ _ hp6]; rfl
          have HM6 : Hid (QMid w w6 B lim zs zs' (.slice a5 l5 c5) P G) := Lib.hid (QMid.made H4.out hi5 hb5 ho5 hb6 (fun v hv => ⟨HPF.out v hv, by have := hb5.size; have := HS4.out; omega⟩) hG (by omega))
          have HP6 := Lib.hid hp6
          have HG6 := Lib.hid hg6
          have HDN := Lib.hid (HM6.out.done K Z HSS.out.1)
          rw [HSS.out.2.1, HSS.out.2.2] at HDN
          have HB56 := Lib.hid hb6.size
          clear hi5 hb5 ho5 hb6 hs6 hg6 hp6 HAC
          go_wp2_with fail
          refine HDN.out.mono ?_
          rintro e w7 ⟨rfl, h7, k7⟩
          have H7 := Lib.hid h7
          have hg7 := (k7 G (Or.inl rfl)).trans HG6.out
          have hp7 := (k7 P (Or.inr rfl)).trans HP6.out
          have g0 : w7.cell? ⟨G, 0, none⟩ = some (.slice a5 l5 c5) := by rw [cell_of_row _ _ 0 _ _ _ hg7]; rfl
          have g1 : w7.cell? ⟨G, 1, none⟩ = some (.int .i64 n) := by rw [cell_of_row _ _ 1 _ _ _ hg7]; rfl
          have g2 : w7.cell? ⟨G, 2, none⟩ = some (.int .i64 er) := by rw [cell_of_row _ _ 2 _ _ _ hg7]; rfl
          have g3 : w7.cell? ⟨P, 1, none⟩ = some (.int .i64 Z) := by rw [cell_of_row _ _ 1 _ _ _ hp7]; rfl
          have HCELL : Hid (∀ W, Below w7.heap.size w7 W → W.cell? ⟨G, 1, none⟩ = some (.int .i64 n) ∧ W.cell? ⟨G, 2, none⟩ = some (.int .i64 er) ∧ W.cell? ⟨P, 1, none⟩ = some (.int .i64 Z)) := Lib.hid (fun W hW => ⟨(hW.cell (cell_lt g1)).trans g1, (hW.cell (cell_lt g2)).trans g2, (hW.cell (cell_lt g3)).trans g3⟩)
          have HL5 : Hid (zs'.length = l5) := Lib.hid (by
            obtain ⟨_, _, he⟩ := h7.row.shape
            simp only [Value.slice.injEq] at he
            exact he.2.1.symm)
          have HALL : Hid (∀ W, Below w7.heap.size w7 W → Calls Try.prog 16 #[.pointer (some ⟨B, 0, none⟩)] W fun e w' => ∃ v3, e = .returned v3 ∧ Below w7.heap.size w7 w' ∧ IsInts w' v3 zs') := Lib.hid (fun W hW => (at_all (h7.next hW).qat (by have := HZL.out; omega)).mono fun e w' ⟨u, he, ho, hb⟩ => ⟨u, he, hW.trans (hb.mono hW.size), ints_of_own ho⟩)
          have HINT : Hid (∀ W v3, Below w7.heap.size w7 W → IsInts W v3 zs' → Calls Try.prog 15 #[v3, .slice a5 l5 c5] W fun e w' => e = .returned (.bool true) ∧ Below w7.heap.size w7 w') := Lib.hid (fun W v3 hW h3 => (ints_any v3 (.slice a5 l5 c5) zs' zs' true W h3 (h7.next hW).row.ints (by simp) (by have := HZL.out; omega) (by have := HZL.out; omega)).mono fun e w' ⟨he, m, hm⟩ => ⟨he, by rw [hm]; exact hW.trans ((below_drewN W m).mono hW.size)⟩)
          have HLEN : Hid (∀ W, Below w7.heap.size w7 W → Calls Try.prog 17 #[.pointer (some ⟨B, 0, none⟩)] W fun e w' => e = .returned (.int .i64 (l5 : Int)) ∧ Below w7.heap.size w7 w') := Lib.hid (fun W hW => (at_len (h7.next hW).qat).mono fun e w' ⟨he, hw⟩ => ⟨by rw [he, HL5.out], by rw [hw]; exact hW⟩)
          have HHAS : Hid (∀ W, Below w7.heap.size w7 W → Calls Try.prog 18 #[.pointer (some ⟨B, 0, none⟩), .int .i64 Z] W fun e w' => e = .returned (.bool true) ∧ Below w7.heap.size w7 w') := Lib.hid (fun W hW => (at_has Z (h7.next hW).qat).mono fun e w' ⟨he, hw⟩ => ⟨by rw [he, HMEM.out], by rw [hw]; exact hW⟩)
          have HPLA : Hid (∀ W, Below w7.heap.size w7 W → Calls Try.prog 19 #[.slice a5 l5 c5, .int .i64 Z] W fun e w' => e = .returned (.int .i64 R) ∧ Below w7.heap.size w7 w') := Lib.hid (fun W hW => (rplace_any (.slice a5 l5 c5) zs' Z W (h7.next hW).row.ints (by have := HZL.out; omega)).mono fun e w' ⟨he, hw⟩ => ⟨by rw [he, HPR.out], by rw [hw]; exact hW⟩)
          have HD1 := Lib.hid (below_drewN w7 1)
          have hx1 : (er != er) = false := by simp
          have hx2 : (n != n) = false := by simp
          have hx3 : ((l5 : Int) != (l5 : Int)) = false := by simp
          clear h7 k7 hg7 hp7 HDN d0 d1
          go_wp2_with fail
          go_region_held3 (fun W => W.cell? ⟨G, 1, none⟩ = some (.int .i64 n) ∧ W.cell? ⟨G, 2, none⟩ = some (.int .i64 er) ∧ W.cell? ⟨P, 1, none⟩ = some (.int .i64 Z)) (go_keep)
            (first
              | (go_at_call 16; refine (HALL.out _ (by exact HD1.out)).mono ?_; rintro e y1 ⟨v3, rfl, k1, i1⟩; have K1 := Lib.hid k1; have I1 := Lib.hid i1; obtain ⟨m1, m2, m3⟩ := HCELL.out y1 k1; clear k1 i1)
              | (go_at_call 15; refine (HINT.out _ _ (by exact K1.out) (by exact I1.out)).mono ?_; rintro e y2 ⟨rfl, k2⟩; have K2 := Lib.hid k2; obtain ⟨m4, m5, m6⟩ := HCELL.out y2 k2; clear k2)
              | (go_at_call 17; refine (HLEN.out _ (by exact K2.out)).mono ?_; rintro e y3 ⟨rfl, k3⟩; have K3 := Lib.hid k3; obtain ⟨m7, m8, m9⟩ := HCELL.out y3 k3; clear k3)
              | (go_at_call 18; refine (HHAS.out _ (by exact K3.out)).mono ?_; rintro e y4 ⟨rfl, k4⟩; have K4 := Lib.hid k4; obtain ⟨n1, n2, n3⟩ := HCELL.out y4 k4; clear k4)
              | (go_at_call 19; refine (HPLA.out _ (by exact K4.out)).mono ?_; rintro e y5 ⟨rfl, k5⟩; have K5 := Lib.hid k5; obtain ⟨n4, n5, n6⟩ := HCELL.out y5 k5; clear k5))
          all_goals
            have H8 : Hid (∃ zs, QB w y5 B lim zs (.slice a5 l5 c5) ∧ zs.length ≤ k + 1) := Lib.hid ⟨zs', H7.out.next K5.out, HZL.out.1⟩
            clear g0 g1 g2 g3 m1 m2 m3 m4 m5 m6 m7 m8 m9 n1 n2 n3 n4 n5 n6
            go_wp2_with fail
            go_roundw
            case rel => exact ⟨k + 1, by go_num, by omega, H8⟩
            case measure => simp [intOf]; omega
        · have HMEM : Hid (decide (Z ∈ zs') = false) := Lib.hid (decide_eq_false hm)
          have hr : ¬ R ≥ 0 := fun h => hm (hpm.1 h)
          clear hm hpm
          go_wp2_with fail
          refine HAC.out.mono ?_
          rintro e w5 ⟨a5, l5, c5, rfl, hi5, hb5, ho5⟩
          rw [show st3 a5 l5 c5 n er = #[.slice a5 l5 c5, .int .i64 n, .int .i64 er] from rfl]
          obtain ⟨G, hG⟩ : ∃ G, w5.heap.size = G := ⟨_, rfl⟩
          obtain ⟨w6, hw6⟩ : ∃ w6, w5.alloc (.cells #[.slice a5 l5 c5, .int .i64 n, .int .i64 er] 32) = w6 := ⟨_, rfl⟩
          have hb6 : Below w5.heap.size w5 w6 := by rw [← hw6]; exact (Below.refl _ _).alloc (Nat.le_refl _) _
          have hs6 : w6.heap.size = G + 1 := by rw [← hw6, ← hG]; simp
          have hg6 : w6.heap[G]? = some (.cells #[.slice a5 l5 c5, .int .i64 n, .int .i64 er] 32 (0, 0)) := by rw [← hw6, ← hG]; exact heap_alloc_new _ _
          have hp6 : w6.heap[P]? = some (.cells #[.int .i64 K, .int .i64 Z] 30 (0, 0)) := (hb6.block P (by have := hb5.size; have := HS4.out; omega)).trans ((hb5.block P (by have := HS4.out; omega)).trans HP4.out)
          have d0 : w6.cell? ⟨P, 0, none⟩ = some (.int .i64 K) := by rw [cell_of_row _ _ 0 _ _ _ hp6]; rfl
          have d1 : w6.cell? ⟨P, 1, none⟩ = some (.int .i64 Z) := by rw [cell_of_row _ _ 1 _ _ _ hp6]; rfl
          have HM6 : Hid (QMid w w6 B lim zs zs' (.slice a5 l5 c5) P G) := Lib.hid (QMid.made H4.out hi5 hb5 ho5 hb6 (fun v hv => ⟨HPF.out v hv, by have := hb5.size; have := HS4.out; omega⟩) hG (by omega))
          have HP6 := Lib.hid hp6
          have HG6 := Lib.hid hg6
          have HDN := Lib.hid (HM6.out.done K Z HSS.out.1)
          rw [HSS.out.2.1, HSS.out.2.2] at HDN
          have HB56 := Lib.hid hb6.size
          clear hi5 hb5 ho5 hb6 hs6 hg6 hp6 HAC
          go_wp2_with fail
          refine HDN.out.mono ?_
          rintro e w7 ⟨rfl, h7, k7⟩
          have H7 := Lib.hid h7
          have hg7 := (k7 G (Or.inl rfl)).trans HG6.out
          have hp7 := (k7 P (Or.inr rfl)).trans HP6.out
          have g0 : w7.cell? ⟨G, 0, none⟩ = some (.slice a5 l5 c5) := by rw [cell_of_row _ _ 0 _ _ _ hg7]; rfl
          have g1 : w7.cell? ⟨G, 1, none⟩ = some (.int .i64 n) := by rw [cell_of_row _ _ 1 _ _ _ hg7]; rfl
          have g2 : w7.cell? ⟨G, 2, none⟩ = some (.int .i64 er) := by rw [cell_of_row _ _ 2 _ _ _ hg7]; rfl
          have g3 : w7.cell? ⟨P, 1, none⟩ = some (.int .i64 Z) := by rw [cell_of_row _ _ 1 _ _ _ hp7]; rfl
          have HCELL : Hid (∀ W, Below w7.heap.size w7 W → W.cell? ⟨G, 1, none⟩ = some (.int .i64 n) ∧ W.cell? ⟨G, 2, none⟩ = some (.int .i64 er) ∧ W.cell? ⟨P, 1, none⟩ = some (.int .i64 Z)) := Lib.hid (fun W hW => ⟨(hW.cell (cell_lt g1)).trans g1, (hW.cell (cell_lt g2)).trans g2, (hW.cell (cell_lt g3)).trans g3⟩)
          have HL5 : Hid (zs'.length = l5) := Lib.hid (by
            obtain ⟨_, _, he⟩ := h7.row.shape
            simp only [Value.slice.injEq] at he
            exact he.2.1.symm)
          have HALL : Hid (∀ W, Below w7.heap.size w7 W → Calls Try.prog 16 #[.pointer (some ⟨B, 0, none⟩)] W fun e w' => ∃ v3, e = .returned v3 ∧ Below w7.heap.size w7 w' ∧ IsInts w' v3 zs') := Lib.hid (fun W hW => (at_all (h7.next hW).qat (by have := HZL.out; omega)).mono fun e w' ⟨u, he, ho, hb⟩ => ⟨u, he, hW.trans (hb.mono hW.size), ints_of_own ho⟩)
          have HINT : Hid (∀ W v3, Below w7.heap.size w7 W → IsInts W v3 zs' → Calls Try.prog 15 #[v3, .slice a5 l5 c5] W fun e w' => e = .returned (.bool true) ∧ Below w7.heap.size w7 w') := Lib.hid (fun W v3 hW h3 => (ints_any v3 (.slice a5 l5 c5) zs' zs' true W h3 (h7.next hW).row.ints (by simp) (by have := HZL.out; omega) (by have := HZL.out; omega)).mono fun e w' ⟨he, m, hm⟩ => ⟨he, by rw [hm]; exact hW.trans ((below_drewN W m).mono hW.size)⟩)
          have HLEN : Hid (∀ W, Below w7.heap.size w7 W → Calls Try.prog 17 #[.pointer (some ⟨B, 0, none⟩)] W fun e w' => e = .returned (.int .i64 (l5 : Int)) ∧ Below w7.heap.size w7 w') := Lib.hid (fun W hW => (at_len (h7.next hW).qat).mono fun e w' ⟨he, hw⟩ => ⟨by rw [he, HL5.out], by rw [hw]; exact hW⟩)
          have HHAS : Hid (∀ W, Below w7.heap.size w7 W → Calls Try.prog 18 #[.pointer (some ⟨B, 0, none⟩), .int .i64 Z] W fun e w' => e = .returned (.bool false) ∧ Below w7.heap.size w7 w') := Lib.hid (fun W hW => (at_has Z (h7.next hW).qat).mono fun e w' ⟨he, hw⟩ => ⟨by rw [he, HMEM.out], by rw [hw]; exact hW⟩)
          have HPLA : Hid (∀ W, Below w7.heap.size w7 W → Calls Try.prog 19 #[.slice a5 l5 c5, .int .i64 Z] W fun e w' => e = .returned (.int .i64 R) ∧ Below w7.heap.size w7 w') := Lib.hid (fun W hW => (rplace_any (.slice a5 l5 c5) zs' Z W (h7.next hW).row.ints (by have := HZL.out; omega)).mono fun e w' ⟨he, hw⟩ => ⟨by rw [he, HPR.out], by rw [hw]; exact hW⟩)
          have HD1 := Lib.hid (below_drewN w7 1)
          have hx1 : (er != er) = false := by simp
          have hx2 : (n != n) = false := by simp
          have hx3 : ((l5 : Int) != (l5 : Int)) = false := by simp
          clear h7 k7 hg7 hp7 HDN d0 d1
          go_wp2_with fail
          go_region_held3 (fun W => W.cell? ⟨G, 1, none⟩ = some (.int .i64 n) ∧ W.cell? ⟨G, 2, none⟩ = some (.int .i64 er) ∧ W.cell? ⟨P, 1, none⟩ = some (.int .i64 Z)) (go_keep)
            (first
              | (go_at_call 16; refine (HALL.out _ (by exact HD1.out)).mono ?_; rintro e y1 ⟨v3, rfl, k1, i1⟩; have K1 := Lib.hid k1; have I1 := Lib.hid i1; obtain ⟨m1, m2, m3⟩ := HCELL.out y1 k1; clear k1 i1)
              | (go_at_call 15; refine (HINT.out _ _ (by exact K1.out) (by exact I1.out)).mono ?_; rintro e y2 ⟨rfl, k2⟩; have K2 := Lib.hid k2; obtain ⟨m4, m5, m6⟩ := HCELL.out y2 k2; clear k2)
              | (go_at_call 17; refine (HLEN.out _ (by exact K2.out)).mono ?_; rintro e y3 ⟨rfl, k3⟩; have K3 := Lib.hid k3; obtain ⟨m7, m8, m9⟩ := HCELL.out y3 k3; clear k3)
              | (go_at_call 18; refine (HHAS.out _ (by exact K3.out)).mono ?_; rintro e y4 ⟨rfl, k4⟩; have K4 := Lib.hid k4; obtain ⟨n1, n2, n3⟩ := HCELL.out y4 k4; clear k4)
              | (go_at_call 19; refine (HPLA.out _ (by exact K4.out)).mono ?_; rintro e y5 ⟨rfl, k5⟩; have K5 := Lib.hid k5; obtain ⟨n4, n5, n6⟩ := HCELL.out y5 k5; clear k5))
          all_goals
            have H8 : Hid (∃ zs, QB w y5 B lim zs (.slice a5 l5 c5) ∧ zs.length ≤ k + 1) := Lib.hid ⟨zs', H7.out.next K5.out, HZL.out.1⟩
            clear g0 g1 g2 g3 m1 m2 m3 m4 m5 m6 m7 m8 m9 n1 n2 n3 n4 n5 n6
            go_wp2_with fail
            go_roundw
            case rel => exact ⟨k + 1, by go_num, by omega, H8⟩
            case measure => simp [intOf]; omega
      · have hki : ¬ (k : Int) < (len : Int) := by omega
        have HLN := Lib.hid (at_len hq1.qat)
        rw [HN.out] at HLN
        have H9 := Lib.hid (three29_any wr)
        have HBR := Lib.hid hq1.below
        clear hq1
        obtain ⟨wa, rfl⟩ : ∃ wa : World, wa = wr := ⟨_, rfl⟩
        go_wp2_with fail
        refine HLN.out.mono ?_
        rintro e w3 ⟨rfl, rfl⟩
        go_wp2_with fail
        refine H9.out.mono ?_
        rintro e w5 ⟨rfl, hb5⟩
        have HB5 := Lib.hid (HBR.out.trans (hb5.mono HBR.out.size))
        clear hb5
        go_wp2_with fail
        go_ret
        exact ⟨rfl, HB5.out⟩
  · have HN := Lib.hid (qnew_bad lim w hlim)
    have H9 := Lib.hid (three29_any w)
    by_cases k1 : lim < 1
    · clear hlim
      go_enter Try.func3, Try.ntmps3
      go_wp2_with fail
      refine HN.out.mono ?_
      rintro e w1 ⟨rfl, rfl⟩
      go_wp2_with fail
      refine H9.out.mono ?_
      rintro e w5 ⟨rfl, hb5⟩
      have HB5 := Lib.hid hb5
      clear hb5
      go_wp2_with fail
      go_ret
      exact ⟨rfl, HB5.out⟩
    · have k2 : lim > 1099511627776 := by omega
      clear hlim
      go_enter Try.func3, Try.ntmps3
      go_wp2_with fail
      refine HN.out.mono ?_
      rintro e w1 ⟨rfl, rfl⟩
      go_wp2_with fail
      refine H9.out.mono ?_
      rintro e w5 ⟨rfl, hb5⟩
      have HB5 := Lib.hid hb5
      clear hb5
      go_wp2_with fail
      go_ret
      exact ⟨rfl, HB5.out⟩
end Go.Proofs.Ytgdgjalfabffcaa

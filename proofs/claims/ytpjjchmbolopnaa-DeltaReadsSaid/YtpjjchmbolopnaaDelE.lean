/-
  THE WALKS OF LAYER 11's CODE (package delta): Step, Read.
-/
import Derived.Test.YtpjjchmbolopnaaDelD
namespace Go.Proofs.Ytpjjchmbolopnaa
open Go.RowKit DelM BitM
set_option linter.unusedVariables false
set_option maxHeartbeats 1000000 in
theorem dstep_nild (x : Option Addr) (w : World) : Calls Try.prog 31 #[.pointer none, .pointer x] w fun e w' => e = .returned (.int .i64 7) ∧ Below w.heap.size w w' := by
  have HB : Hid (Below w.heap.size w (w.alloc (.cells #[.pointer x] 40))) := Lib.hid ((Below.refl _ _).alloc (Nat.le_refl _) _)
  go_enter Try.func31, Try.ntmps31
  go_wp2_with fail
  go_ret
  exact ⟨rfl, HB.out⟩
set_option maxHeartbeats 1000000 in
theorem dstep_nilr (b : Nat) (w : World) : Calls Try.prog 31 #[.pointer (some ⟨b, 0, none⟩), .pointer none] w fun e w' => e = .returned (.int .i64 7) ∧ Below w.heap.size w w' := by
  have HB : Hid (Below w.heap.size w (w.alloc (.cells #[.pointer none] 40))) := Lib.hid ((Below.refl _ _).alloc (Nat.le_refl _) _)
  go_enter Try.func31, Try.ntmps31
  go_wp2_with fail
  go_ret
  exact ⟨rfl, HB.out⟩
set_option maxHeartbeats 1000000 in
theorem dstep_done (b rb N : Nat) (ls : List Int) (now : Int) (bad : Bool) (w : World) (hD : IsDel w b N ls now bad) (hl : ls.length = N) : Calls Try.prog 31 #[.pointer (some ⟨b, 0, none⟩), .pointer (some ⟨rb, 0, none⟩)] w fun e w' => e = .returned (.int .i64 7) ∧ Below w.heap.size w w' := by
  have hB := (Below.refl w.heap.size w).alloc (Nat.le_refl _) (.cells #[.pointer (some ⟨rb, 0, none⟩)] 40)
  have HB := Lib.hid hB
  have HDN := Lib.hid (ddone_any b N ls now bad true _ (hD.other (Touch.ofBelow (S := fun _ => False) hB) (fun h => h)) ⟨fun _ => hl, fun _ => rfl⟩)
  clear hD hl hB
  go_enter Try.func31, Try.ntmps31
  go_wp2_with fail
  refine HDN.out.mono ?_
  rintro e w2 ⟨rfl, m, rfl⟩
  go_wp2_with fail
  go_ret
  exact ⟨rfl, HB.out.trans ⟨rfl, rfl, rfl, Nat.le_refl _, fun _ _ => rfl⟩⟩
set_option maxRecDepth 100000 in
set_option maxHeartbeats 2000000 in
theorem dstepc_any (b rb N : Nat) (ls : List Int) (now : Int) (bad : Bool) (v : Value) (l : List UInt8) (dr sp p : Nat) (w : World) (hD : IsDel w b N ls now bad) (hR : IsReader w rb v l dr sp p) (hs : dr + l.length ≤ 1099511627776)
    (hne : ∀ k, foot rb v k → k ≠ b) (hl : ls.length < N) (hn : 0 ≤ now ∧ now ≤ 20 ∨ bad = true) :
    Calls Try.prog 31 #[.pointer (some ⟨b, 0, none⟩), .pointer (some ⟨rb, 0, none⟩)] w fun e w' => StepD w w' b rb N v l dr sp p (dstep ((bitsOf l).drop (p - 8 * dr)) ls now bad) e := by
  have hB := (Below.refl w.heap.size w).alloc (Nat.le_refl _) (.cells #[.pointer (some ⟨rb, 0, none⟩)] 40)
  have hT := Touch.ofBelow (S := fun k => k = b ∨ k = rb) hB
  have hD1 := hD.other (Touch.ofBelow (S := fun _ => False) hB) (fun h => h)
  have hR1 := hR.other (Touch.ofBelow (S := fun _ => False) hB) (fun _ _ h => h)
  have hc1 : (w.alloc (.cells #[.pointer (some ⟨rb, 0, none⟩)] 40)).cell? ⟨w.heap.size, 0, none⟩ = some (.pointer (some ⟨rb, 0, none⟩)) := cell_of_row _ _ 0 _ _ _ (heap_alloc_new _ _)
  have HDN := Lib.hid (ddone_any b N ls now bad false _ hD1 ⟨fun e => (by cases e), fun e => by omega⟩)
  have HT := Lib.hid hT
  have HD1 := Lib.hid hD1
  have HR1 := Lib.hid hR1
  have HC1 := Lib.hid hc1
  have hp8 := hR.2.2.2.1
  have HNE := Lib.hid hne
  have hbl := Lib.hid hD.lt
  have hrl := Lib.hid (hR.lt rb (Or.inl rfl))
  have hs1 : Hid ((w.alloc (.cells #[.pointer (some ⟨rb, 0, none⟩)] 40)).heap.size = w.heap.size + 1) := Lib.hid (by simp)
  obtain ⟨G, hG⟩ : ∃ G, w.heap.size = G := ⟨_, rfl⟩
  have HGG := Lib.hid hG
  rw [hG] at hc1 HC1 hbl hrl hs1
  clear hB hT hD1 hR1 hD hR hne
  go_enter Try.func31, Try.ntmps31
  go_wp2_with fail
  refine HDN.out.mono ?_
  rintro e w2 ⟨rfl, m, hw2⟩
  have HT2 : Hid (Touch (fun k => k = b ∨ k = rb) w w2) := Lib.hid (by rw [hw2]; exact HT.out.trans (touch_drewN _ _ m) (fun j hj => Or.inl hj))
  have HD2 : Hid (IsDel w2 b N ls now bad) := Lib.hid (by rw [hw2]; exact HD1.out.other (touch_drewN (fun _ => False) _ m) (fun h => h))
  have HR2 : Hid (IsReader w2 rb v l dr sp p) := Lib.hid (by rw [hw2]; exact HR1.out.drewN m)
  have HC2 : w2.cell? ⟨G, 0, none⟩ = some (.pointer (some ⟨rb, 0, none⟩)) := by rw [hw2]; exact HC1.out
  have hs2 : Hid (w2.heap.size = G + 1) := Lib.hid (by rw [hw2]; exact hs1.out)
  clear hw2 hs1 HC1 HR1 HD1 HT HDN hc1
  try rw [hG]
  clear hG
  have c3 := HD2.out.cells.2.2.2
  cases bad with
  | true =>
    go_wp2_with fail
    go_ret
    rw [dstep_bad]
    exact ⟨rfl, HD2.out, HR2.out, HT2.out⟩
  | false =>
    have hn2 : 0 ≤ now ∧ now ≤ 20 := hn.elim id (fun h => by cases h)
    go_wp2_with fail
    refine (rat_any rb v l dr sp p w2 HR2.out).mono ?_
    rintro e w3 ⟨rfl, rfl⟩
    have hB3 := (Below.refl w2.heap.size w2).alloc (Nat.le_refl _) (.cells #[.int .i64 (p : Int)] 3)
    have HT3 : Hid (Touch (fun k => k = b ∨ k = rb) w (w2.alloc (.cells #[.int .i64 (p : Int)] 3))) := Lib.hid (HT2.out.trans (Touch.ofBelow (S := fun k => k = b ∨ k = rb) hB3) (fun j hj => Or.inl hj))
    have HD3 : Hid (IsDel (w2.alloc (.cells #[.int .i64 (p : Int)] 3)) b N ls now false) := Lib.hid (HD2.out.other (Touch.ofBelow (S := fun _ => False) hB3) (fun h => h))
    have HR3 : Hid (IsReader (w2.alloc (.cells #[.int .i64 (p : Int)] 3)) rb v l dr sp p) := Lib.hid (HR2.out.other (Touch.ofBelow (S := fun _ => False) hB3) (fun _ _ h => h))
    have HCA : Hid (Caught (w2.alloc (.cells #[.int .i64 (p : Int)] 3)) G (G + 1) rb p) := Lib.hid ⟨by
      have h1 := hB3.block G (by rw [hs2.out]; omega)
      rw [World.cell?_of_block (w := w2) (a := ⟨G, 0, none⟩) h1]; exact HC2, by
      have h2 := heap_alloc_new w2 (.cells #[.int .i64 (p : Int)] 3)
      rw [hs2.out] at h2
      exact cell_of_row _ _ 0 _ _ _ h2, by have := hrl.out; omega, by have := hrl.out; omega⟩
    have c4 := HD3.out.cells.2.2.1
    have hsz := hs2.out
    clear hB3 HC2 c3
    by_cases h0 : now = 0
    · subst h0
      have HF := Lib.hid (first_any b rb G (G + 1) N ls v l dr sp p _ HD3.out HR3.out HCA.out hs HNE.out)
      go_wp2_with fail
      try rw [hsz]
      refine HF.out.mono ?_
      rintro e w5 ⟨rfl, k1, k2, k3⟩
      have K : Hid (StepD w w5 b rb N v l dr sp p (dstep ((bitsOf l).drop (p - 8 * dr)) ls 0 false) (.returned (.int .i64 (dstep ((bitsOf l).drop (p - 8 * dr)) ls 0 false).err))) := Lib.hid ⟨rfl, k1, k2, touch_tr HT3.out k3⟩
      clear k1 k2 k3
      generalize ho : dstep ((bitsOf l).drop (p - 8 * dr)) ls 0 false = o at *
      have HO := Lib.hid ho
      clear ho
      go_wp2_with fail
      go_ret
      rw [HO.out]
      exact K.out
    · have h0b : (now == 0) = false := by rw [beq_eq_false_iff_ne]; exact h0
      have HF := Lib.hid (next_any11 b rb G (G + 1) N ls now v l dr sp p _ HD3.out HR3.out HCA.out hs HNE.out hl (by omega) ⟨by have := hbl.out; omega, by have := hbl.out; omega⟩)
      go_wp2_with fail
      try rw [hsz]
      refine HF.out.mono ?_
      rintro e w5 ⟨rfl, k1, k2, k3⟩
      have K : Hid (StepD w w5 b rb N v l dr sp p (dstep ((bitsOf l).drop (p - 8 * dr)) ls now false) (.returned (.int .i64 (dstep ((bitsOf l).drop (p - 8 * dr)) ls now false).err))) := Lib.hid ⟨rfl, k1, k2, touch_tr HT3.out k3⟩
      clear k1 k2 k3
      generalize ho : dstep ((bitsOf l).drop (p - 8 * dr)) ls now false = o at *
      have HO := Lib.hid ho
      clear ho
      go_wp2_with fail
      go_ret
      rw [HO.out]
      exact K.out
set_option maxHeartbeats 1000000 in
theorem dread_nil (x : Value) (w : World) : Calls Try.prog 23 #[.pointer none, x] w fun e w' => e = .returned (.tuple #[.slice none 0 0, .int .i64 7]) ∧ w' = w := by
  go_enter Try.func23, Try.ntmps23
  go_wp2_with fail
  go_ret2
  exact ⟨rfl, rfl⟩
set_option maxHeartbeats 1000000 in
theorem dread_arg (rb : Nat) (n : Int) (w : World) (h : n < 3 ∨ 258 < n) : Calls Try.prog 23 #[.pointer (some ⟨rb, 0, none⟩), .int .i64 n] w fun e w' => e = .returned (.tuple #[.slice none 0 0, .int .i64 1]) ∧ w' = w := by
  have HN := Lib.hid (dnew_no n w h)
  clear h
  go_enter Try.func23, Try.ntmps23
  go_wp2_with fail
  refine HN.out.mono ?_
  rintro e w' ⟨rfl, rfl⟩
  go_wp2_with fail
  go_ret2
  exact ⟨rfl, rfl⟩
/-- What Read tells of bits, and how far the reader went on. -/
def RdP (Q : List Bool) (N : Nat) (ls : List Int) (err : Int) (used : Nat) : Prop :=
  match rd Q N with
  | .short => ls = [] ∧ err = 3 ∧ used = 0
  | .table => ls = [] ∧ err = 22 ∧ used = 0
  | .ok l n => ls = l ∧ err = 0 ∧ used = n
theorem RdP.short {Q : List Bool} {N : Nat} (h : rd Q N = .short) : RdP Q N [] 3 0 := by unfold RdP; rw [h]; exact ⟨rfl, rfl, rfl⟩
theorem RdP.table {Q : List Bool} {N : Nat} (h : rd Q N = .table) : RdP Q N [] 22 0 := by unfold RdP; rw [h]; exact ⟨rfl, rfl, rfl⟩
theorem RdP.ok {Q : List Bool} {N : Nat} {l : List Int} {n : Nat} (h : rd Q N = .ok l n) : RdP Q N l 0 n := by unfold RdP; rw [h]; exact ⟨rfl, rfl, rfl⟩
theorem touch_rb {w w1 w3 : World} {b rb : Nat} (hB : Below b w w1) (hb : w.heap.size = b) (h : Touch (fun k => k = b ∨ k = rb) w1 w3) : Touch (· = rb) w w3 :=
  (Touch.ofBelow (S := (· = rb)) (by rw [hb]; exact hB)).trans h (fun j hj => by
    rcases hj with rfl | rfl
    · exact Or.inr (by rw [hb]; exact Nat.le_refl _)
    · exact Or.inl rfl)
set_option maxRecDepth 100000 in
set_option maxHeartbeats 4000000 in
theorem dread_any (rb N : Nat) (v : Value) (l : List UInt8) (dr sp p : Nat) (w : World) (hR : IsReader w rb v l dr sp p) (hs : dr + l.length ≤ 1099511627776) (h3 : 3 ≤ N) (h258 : N ≤ 258) :
    Calls Try.prog 23 #[.pointer (some ⟨rb, 0, none⟩), .int .i64 (N : Int)] w fun e w' => ∃ (u : Value) (ls : List Int) (err : Int) (k : Nat), e = .returned (.tuple #[u, .int .i64 err]) ∧ IsInts w' u ls ∧ RdP ((bitsOf l).drop (p - 8 * dr)) N ls err k ∧ IsReader w' rb v l dr sp (p + k) ∧ Touch (· = rb) w w' := by
  have HR := Lib.hid hR
  have h1 := hR.2.2.2.1
  have h2 := hR.2.2.2.2
  have hbl := Lib.hid hR.lt
  have hql : Hid (((bitsOf l).drop (p - 8 * dr)).length = 8 * (dr + l.length) - p) := Lib.hid (by rw [List.length_drop, bitsOf_length]; omega)
  have hQd : Hid (∀ a, (bitsOf l).drop (p + a - 8 * dr) = ((bitsOf l).drop (p - 8 * dr)).drop a) := Lib.hid (fun a => by rw [List.drop_drop]; congr 1; omega)
  generalize hQ : (bitsOf l).drop (p - 8 * dr) = Q at *
  have HN := Lib.hid (dnew_yes N w h3 h258)
  clear hR hQ
  go_enter Try.func23, Try.ntmps23
  go_wp2_with fail
  refine HN.out.mono ?_
  rintro e w1 ⟨rfl, hD1, hB1⟩
  obtain ⟨b, hb⟩ : ∃ b, w.heap.size = b := ⟨_, rfl⟩
  have HB := Lib.hid hb
  rw [hb] at hD1 hB1 ⊢
  have HD1 := Lib.hid hD1
  have HB1 := Lib.hid hB1
  have HR1 : Hid (IsReader w1 rb v l dr sp p) := Lib.hid (HR.out.other (Touch.ofBelow (S := fun _ => False) (by rw [HB.out]; exact hB1)) (fun _ _ h => h))
  have HNE : Hid (∀ k, foot rb v k → k ≠ b) := Lib.hid (fun k hk => by have := hbl.out k hk; have := HB.out; omega)
  have hbw1 : b < w1.heap.size := hD1.lt
  clear hD1 hB1 hb HN HR
  go_wp2_with fail
  refine (rat_any rb v l dr sp p w1 HR1.out).mono ?_
  rintro e w2 ⟨rfl, rfl⟩
  go_wp2_with fail
  go_loopw [9] (fun _ wr => ∃ (a : Nat) (ls : List Int) (now : Int), IsDel wr b N ls now false ∧ IsReader wr rb v l dr sp (p + a) ∧ a ≤ 8 * (dr + l.length) - p ∧ Rt Q N a ls now ∧ Touch (fun k => k = b ∨ k = rb) w1 wr) (fun _ wr => 8 * (dr + l.length) - (match wr.cell? ⟨rb, 3, none⟩ with | some (.int _ z) => z.toNat | _ => 0))
  case atStart => exact ⟨0, [], 0, HD1.out, HR1.out, Nat.zero_le _, Rt.start _ _, Touch.refl _ _⟩
  case round =>
    clear HD1 HR1
    obtain ⟨a, ls, now, hD, hRd, ha, hRt, hT⟩ := hrel
    have HD := Lib.hid hD
    have HRd := Lib.hid hRd
    have HRt := Lib.hid hRt
    have HT := Lib.hid hT
    have hm0 := hRd.cells.2.2.2.1
    have hnow := hRt.now
    have hle := hD.le.1
    clear hD hRd hRt hT
    by_cases hl : ls.length = N
    · have HDN := Lib.hid (ddone_any b N ls now false true wr HD.out ⟨fun _ => hl, fun _ => rfl⟩)
      have HRP := Lib.hid (RdP.ok (HRt.out.all hl (by omega)))
      go_wp2_with fail
      refine HDN.out.mono ?_
      rintro e w3 ⟨rfl, m, hw3⟩
      have HD3 : Hid (IsDel w3 b N ls now false) := Lib.hid (by rw [hw3]; exact HD.out.other (touch_drewN (fun _ => False) _ m) (fun h => h))
      have HR3 : Hid (IsReader w3 rb v l dr sp (p + a)) := Lib.hid (by rw [hw3]; exact HRd.out.drewN m)
      have HT3 : Hid (Touch (fun k => k = b ∨ k = rb) w1 w3) := Lib.hid (by rw [hw3]; exact HT.out.trans (touch_drewN _ _ m) (fun j hj => Or.inl hj))
      clear hw3 hm0
      go_wp2_with fail
      refine (dlens_any b N ls now false w3 HD3.out).mono ?_
      rintro e w4 ⟨u, rfl, hO4, hB4⟩
      have HO4 := Lib.hid hO4.ints
      have HR4 : Hid (IsReader w4 rb v l dr sp (p + a)) := Lib.hid (HR3.out.other (Touch.ofBelow (S := fun _ => False) hB4) (fun _ _ h => h))
      have HT4 : Hid (Touch (· = rb) w w4) := Lib.hid (touch_rb HB1.out HB.out (HT3.out.trans (Touch.ofBelow (S := fun _ => False) hB4) (fun j hj => by cases hj)))
      clear hO4 hB4
      go_wp2_with fail
      go_ret2
      exact ⟨u, ls, 0, a, rfl, HO4.out, HRP.out, HR4.out, HT4.out⟩
    · have hlN : ls.length < N := by omega
      have HDN := Lib.hid (ddone_any b N ls now false false wr HD.out ⟨fun e => (by cases e), fun e => by omega⟩)
      go_wp2_with fail
      refine HDN.out.mono ?_
      rintro e w3 ⟨rfl, m, hw3⟩
      have HD3 : Hid (IsDel w3 b N ls now false) := Lib.hid (by rw [hw3]; exact HD.out.other (touch_drewN (fun _ => False) _ m) (fun h => h))
      have HR3 : Hid (IsReader w3 rb v l dr sp (p + a)) := Lib.hid (by rw [hw3]; exact HRd.out.drewN m)
      have HT3 : Hid (Touch (fun k => k = b ∨ k = rb) w1 w3) := Lib.hid (by rw [hw3]; exact HT.out.trans (touch_drewN _ _ m) (fun j hj => Or.inl hj))
      clear hw3
      have HST := Lib.hid (dstepc_any b rb N ls now false v l dr sp (p + a) w3 HD3.out HR3.out hs HNE.out hlN (Or.inl hnow))
      rw [hQd.out a] at HST
      have HQL : Hid ((Q.drop a).length = 8 * (dr + l.length) - p - a) := Lib.hid (by rw [List.length_drop, hql.out])
      have HDS := Lib.hid (HRt.out.step hlN (Q.drop a) [] (by rw [List.append_nil]))
      generalize hod : dstep (Q.drop a) ls now false = o at *
      clear hod
      go_wp2_with fail
      refine HST.out.mono ?_
      rintro e w4 ⟨rfl, hD4, hR4, hT4⟩
      have HD4 := Lib.hid hD4
      have HR4 := Lib.hid hR4
      have HT4 := Lib.hid (touch_tr HT3.out hT4)
      have hm1 := hR4.cells.2.2.2.1
      clear hD4 hR4 hT4 HST
      rcases HDS.out with ⟨e1, e2, e3, e4, e5⟩ | ⟨e1, e2, e3, e4, _⟩ | ⟨e1, e2⟩
      · have HE2 := Lib.hid e2
        have HE5 := Lib.hid e5
        have he4 : o.used ≤ 8 * (dr + l.length) - p - a := by have := HQL.out; omega
        rw [e1]
        clear e1 e2 e5 e4 HDS
        go_wp2_with fail
        go_roundw
        case rel => exact ⟨a + o.used, o.ls, o.now, by rw [← HE2.out]; exact HD4.out, by rw [← Nat.add_assoc]; exact HR4.out, by omega, HE5.out, HT4.out⟩
        case measure =>
          rw [hm0, hm1]
          simp
          omega
      · have HRP := Lib.hid (RdP.table e4)
        have HSK := Lib.hid (seek_yes rb v l dr sp (p + a + o.used) p w4 HR4.out hs h1 h2)
        rw [e1]
        clear e1 e2 e3 e4 HDS hm0 hm1
        go_wp2_with fail
        refine HSK.out.mono ?_
        rintro e w5 ⟨rfl, hr5, ht5⟩
        have HR5 := Lib.hid hr5
        have HT5 : Hid (Touch (· = rb) w w5) := Lib.hid (touch_rb HB1.out HB.out (touch_tr HT4.out (touch_r ht5)))
        clear hr5 ht5
        go_wp2_with fail
        go_ret2
        exact ⟨.slice none 0 0, [], 22, 0, rfl, IsInts.nil _, HRP.out, HR5.out, HT5.out⟩
      · have HRP := Lib.hid (RdP.short (e2 (by first | rfl | trivial)))
        have HSK := Lib.hid (seek_yes rb v l dr sp (p + a + o.used) p w4 HR4.out hs h1 h2)
        have e3 : o.err = 3 := by rw [e1]
        rw [e3]
        clear e1 e2 e3 HDS hm0 hm1
        go_wp2_with fail
        refine HSK.out.mono ?_
        rintro e w5 ⟨rfl, hr5, ht5⟩
        have HR5 := Lib.hid hr5
        have HT5 : Hid (Touch (· = rb) w w5) := Lib.hid (touch_rb HB1.out HB.out (touch_tr HT4.out (touch_r ht5)))
        clear hr5 ht5
        go_wp2_with fail
        go_ret2
        exact ⟨.slice none 0 0, [], 3, 0, rfl, IsInts.nil _, HRP.out, HR5.out, HT5.out⟩
end Go.Proofs.Ytpjjchmbolopnaa

/-
  THE WALKS OF LAYER 13's CODE (package picks): Read.
-/
import Derived.Test.YtfckghaigbmeaaaPkF
import Derived.OwnWalk
namespace Go.Proofs.Ytfckghaigbmeaaa
open Go.RowKit PkM BitM
set_option linter.unusedVariables false
set_option maxHeartbeats 1000000 in
theorem pread_nil (w : World) : Calls Try.prog 23 #[.pointer none] w fun e w' => e = .returned (.tuple #[.slice none 0 0, .int .i64 0, .int .i64 7]) ∧ w' = w := by
  go_enter Try.func23, Try.ntmps23
  go_wp2_with fail
  go_ret3
  exact ⟨rfl, rfl⟩
/-- What Read tells of bits, and how far the reader went on. -/
def PkRd (Q : List Bool) (ps : List Nat) (t : Nat) (err : Int) (used : Nat) : Prop :=
  match rd Q with
  | .short => ps = [] ∧ t = 0 ∧ err = 3 ∧ used = 0
  | .bad _ => ps = [] ∧ t = 0 ∧ err = 25 ∧ used = 0
  | .ok l n => ps = l ∧ t = num (Q.take 3) ∧ err = 0 ∧ used = n
theorem PkRd.short {Q : List Bool} (h : rd Q = .short) : PkRd Q [] 0 3 0 := by unfold PkRd; rw [h]; exact ⟨rfl, rfl, rfl, rfl⟩
theorem PkRd.bad {Q : List Bool} {n : Nat} (h : rd Q = .bad n) : PkRd Q [] 0 25 0 := by unfold PkRd; rw [h]; exact ⟨rfl, rfl, rfl, rfl⟩
theorem PkRd.ok {Q : List Bool} {l : List Nat} {n t : Nat} (h : rd Q = .ok l n) (ht : num (Q.take 3) = t) : PkRd Q l t 0 n := by unfold PkRd; rw [h]; exact ⟨rfl, ht.symm, rfl, rfl⟩
/-- All that is new, and rb. -/
def Nb (B rb k : Nat) : Prop := B ≤ k ∨ k = rb
theorem nb_tr {w w1 w2 : World} {B rb : Nat} (h : Touch (Nb B rb) w w1) (k : Touch (Nb B rb) w1 w2) : Touch (Nb B rb) w w2 := h.trans k (fun _ hj => Or.inl hj)
theorem nb_rb {w w1 w3 : World} {B rb : Nat} (hB : Below B w w1) (hb : w.heap.size = B) (h : Touch (Nb B rb) w1 w3) : Touch (· = rb) w w3 :=
  (Touch.ofBelow (S := (· = rb)) (by rw [hb]; exact hB)).trans h (fun j hj => by
    rcases hj with hj | rfl
    · exact Or.inr (by rw [hb]; exact hj)
    · exact Or.inl rfl)
set_option maxRecDepth 100000 in
set_option maxHeartbeats 4000000 in
theorem pread_any (rb : Nat) (v : Value) (l : List UInt8) (dr sp p : Nat) (w : World) (hR : IsReader w rb v l dr sp p) (hs : dr + l.length ≤ 1099511627776) :
    Calls Try.prog 23 #[.pointer (some ⟨rb, 0, none⟩)] w fun e w' => ∃ (u : Value) (ps : List Nat) (t : Nat) (err : Int) (k : Nat), e = .returned (.tuple #[u, .int .i64 (t : Int), .int .i64 err]) ∧ IsInts w' u (toI ps) ∧ PkRd ((bitsOf l).drop (p - 8 * dr)) ps t err k ∧ IsReader w' rb v l dr sp (p + k) ∧ Touch (· = rb) w w' := by
  have HR := Lib.hid hR
  have h1 := hR.2.2.2.1
  have h2 := hR.2.2.2.2
  have hbl := Lib.hid hR.lt
  have hql : Hid (((bitsOf l).drop (p - 8 * dr)).length = 8 * (dr + l.length) - p) := Lib.hid (by rw [List.length_drop, bitsOf_length]; omega)
  have hQd : Hid (∀ a, (bitsOf l).drop (p + a - 8 * dr) = ((bitsOf l).drop (p - 8 * dr)).drop a) := Lib.hid (fun a => by rw [List.drop_drop]; congr 1; omega)
  generalize hQ : (bitsOf l).drop (p - 8 * dr) = Q at *
  clear hR hQ
  go_enter Try.func23, Try.ntmps23
  go_wp2_with fail
  refine (rat_any rb v l dr sp p w HR.out).mono ?_
  rintro e w0 ⟨rfl, rfl⟩
  go_wp2_with fail
  refine (pnew_any w).mono ?_
  rintro e w1 ⟨rfl, hD1, hB1⟩
  obtain ⟨b, hb⟩ : ∃ b, w.heap.size = b := ⟨_, rfl⟩
  have HB := Lib.hid hb
  rw [hb] at hD1 hB1 ⊢
  have HD1 := Lib.hid hD1
  have HB1 := Lib.hid hB1
  have HR1 : Hid (IsReader w1 rb v l dr sp p) := Lib.hid (HR.out.other (Touch.ofBelow (S := fun _ => False) (by rw [HB.out]; exact hB1)) (fun _ _ h => h))
  have HNE : Hid (∀ k, foot rb v k → k < b) := Lib.hid (fun k hk => by have := hbl.out k hk; have := HB.out; omega)
  clear hD1 hB1 hb HR
  go_wp2_with fail
  go_loopw [7] (fun _ wr => ∃ (a : Nat) (pv : Value) (t n : Nat) (ps o : List Nat), IsPk wr b pv t n ps o false ∧ IsReader wr rb v l dr sp (p + a) ∧ a ≤ 8 * (dr + l.length) - p ∧ Rt Q a t n ps o ∧ Touch (Nb b rb) w1 wr) (fun _ wr => 8 * (dr + l.length) - (match wr.cell? ⟨rb, 3, none⟩ with | some (.int _ z) => z.toNat | _ => 0))
  case atStart => exact ⟨0, _, 0, 0, [], _, HD1.out, HR1.out, Nat.zero_le _, Rt.start _ _, Touch.refl _ _⟩
  case round =>
    clear HD1 HR1
    obtain ⟨a, pv, t, n, ps, o, hD, hRd, ha, hRt, hT⟩ := hrel
    have HD := Lib.hid hD
    have HRd := Lib.hid hRd
    have HRt := Lib.hid hRt
    have HT := Lib.hid hT
    have hm0 := hRd.cells.2.2.2.1
    have hbnd := hRt.bnd
    clear hD hRd hRt hT
    by_cases hl : 1 ≤ n ∧ ps.length = n
    · have HDN := Lib.hid (pdone_any b pv t n ps o false true wr HD.out ⟨fun _ => hl, fun _ => rfl⟩)
      have HRP := Lib.hid (PkRd.ok (HRt.out.all hl.1 hl.2).1 (HRt.out.all hl.1 hl.2).2)
      clear hbnd hl
      go_wp2_with fail
      refine HDN.out.mono ?_
      rintro e w3 ⟨rfl, m, hw3⟩
      have HD3 : Hid (IsPk w3 b pv t n ps o false) := Lib.hid (by rw [hw3]; exact HD.out.drewN m)
      have HR3 : Hid (IsReader w3 rb v l dr sp (p + a)) := Lib.hid (by rw [hw3]; exact HRd.out.drewN m)
      have HT3 : Hid (Touch (Nb b rb) w1 w3) := Lib.hid (by rw [hw3]; exact nb_tr HT.out (touch_drewN _ _ m))
      clear hw3 hm0
      obtain ⟨c0, c1, c2, c3⟩ := HD3.out.cells
      go_wp2_with fail
      go_quiet (fail)
      go_wp2_with fail
      go_ret3
      exact ⟨pv, ps, t, 0, a, rfl, HD3.out.ints, HRP.out, HR3.out.drewN _, nb_rb HB1.out HB.out (nb_tr HT3.out (touch_drewN _ _ _))⟩
    · have hlN : n = 0 ∨ (ps.length < n ∧ n ≤ 32767 ∧ t ≤ 6) := by omega
      have HDN := Lib.hid (pdone_any b pv t n ps o false false wr HD.out ⟨fun e => (by cases e), fun e => absurd e hl⟩)
      have HLN := Lib.hid hlN
      clear hbnd hl hlN
      go_wp2_with fail
      refine HDN.out.mono ?_
      rintro e w3 ⟨rfl, m, hw3⟩
      have HD3 : Hid (IsPk w3 b pv t n ps o false) := Lib.hid (by rw [hw3]; exact HD.out.drewN m)
      have HR3 : Hid (IsReader w3 rb v l dr sp (p + a)) := Lib.hid (by rw [hw3]; exact HRd.out.drewN m)
      have HT3 : Hid (Touch (Nb b rb) w1 w3) := Lib.hid (by rw [hw3]; exact nb_tr HT.out (touch_drewN _ _ m))
      clear hw3
      have HFL := Lib.hid HD3.out.lt
      have HST := Lib.hid (pstepc_any b rb pv t n ps o false v l dr sp (p + a) w3 HD3.out HR3.out hs (fun k hk hh => by have := HNE.out k hk; have := HFL.out k hh; omega) HLN.out)
      rw [hQd.out a] at HST
      have HQL : Hid ((Q.drop a).length = 8 * (dr + l.length) - p - a) := Lib.hid (by rw [List.length_drop, hql.out])
      have HDS := Lib.hid (HRt.out.step (by have := HLN.out; omega) (Q.drop a) [] (by rw [List.append_nil]))
      generalize hod : pstep (Q.drop a) t n ps o false = O at *
      clear hod
      go_wp2_with fail
      refine HST.out.mono ?_
      rintro e w4 ⟨pv4, rfl, hD4, hR4, hT4, _⟩
      have HD4 := Lib.hid hD4
      have HR4 := Lib.hid hR4
      have HT4 : Hid (Touch (Nb b rb) w1 w4) := Lib.hid (nb_tr HT3.out (hT4.mono (fun k hk => by
        rcases hk with hk | hk
        · exact Or.inl (HFL.out k hk).1
        · exact Or.inr hk)))
      have hm1 := hR4.cells.2.2.2.1
      clear hD4 hR4 hT4 HST
      rcases HDS.out with ⟨e1, e2, e3, e4, e5, _⟩ | ⟨e1, e2, e3, e4, _⟩ | ⟨e1, e2⟩
      · have HE2 := Lib.hid e2
        have HE5 := Lib.hid e5
        have he4 : O.used ≤ 8 * (dr + l.length) - p - a := by have := HQL.out; omega
        rw [e1]
        clear e1 e2 e5 e4 HDS
        go_wp2_with fail
        go_roundw
        case rel => exact ⟨a + O.used, pv4, O.t, O.n, O.ps, O.o, by rw [← HE2.out]; exact HD4.out, by rw [← Nat.add_assoc]; exact HR4.out, by omega, HE5.out, HT4.out⟩
        case measure =>
          rw [hm0, hm1]
          simp
          omega
      · have HRP := Lib.hid (PkRd.bad e4)
        have HSK := Lib.hid (seek_yes rb v l dr sp (p + a + O.used) p w4 HR4.out hs h1 h2)
        rw [e1]
        clear e1 e2 e3 e4 HDS hm0 hm1
        go_wp2_with fail
        refine HSK.out.mono ?_
        rintro e w5 ⟨rfl, hr5, ht5⟩
        have HR5 := Lib.hid hr5
        have HT5 : Hid (Touch (· = rb) w w5) := Lib.hid (nb_rb HB1.out HB.out (nb_tr HT4.out (ht5.mono (fun k hk => Or.inr hk))))
        clear hr5 ht5
        go_wp2_with fail
        go_ret3
        exact ⟨.slice none 0 0, [], 0, 25, 0, rfl, IsInts.nil _, HRP.out, HR5.out, HT5.out⟩
      · have HRP := Lib.hid (PkRd.short (e2 (by first | rfl | trivial)))
        have HSK := Lib.hid (seek_yes rb v l dr sp (p + a + O.used) p w4 HR4.out hs h1 h2)
        have e3 : O.err = 3 := by rw [e1]
        rw [e3]
        clear e1 e2 e3 HDS hm0 hm1
        go_wp2_with fail
        refine HSK.out.mono ?_
        rintro e w5 ⟨rfl, hr5, ht5⟩
        have HR5 := Lib.hid hr5
        have HT5 : Hid (Touch (· = rb) w w5) := Lib.hid (nb_rb HB1.out HB.out (nb_tr HT4.out (ht5.mono (fun k hk => Or.inr hk))))
        clear hr5 ht5
        go_wp2_with fail
        go_ret3
        exact ⟨.slice none 0 0, [], 0, 3, 0, rfl, IsInts.nil _, HRP.out, HR5.out, HT5.out⟩
end Go.Proofs.Ytfckghaigbmeaaa

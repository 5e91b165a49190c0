/-
  THE WALKS OF LAYER 7's CODE (package zeros): Reader.Put, NewReader.
-/
import Derived.Test.YthfdmmlamomlkaaZerC
namespace Go.Proofs.Ythfdmmlamomlkaa
open Go.RowKit ZerM
set_option linter.unusedVariables false
/-- What Put tells, and what it makes of the reader. -/
def PutP (n : Int) (most : Nat) (s : St) (c : Int) (b : Nat) (w : World) (e : Ending) (w' : World) : Prop :=
  Touch (· = b) w w' ∧ ((putE n most s c = 0 ∧ e = .returned (.tuple #[.int .i64 (putZ s c : Int), .int .i64 (putP n c), .int .i64 0]) ∧ IsZR w' b n most (putS n s c)) ∨
    (putE n most s c ≠ 0 ∧ e = .returned (.tuple #[.int .i64 0, .int .i64 0, .int .i64 (putE n most s c : Int)]) ∧ IsZR w' b n most s))
theorem zr_of {w : World} {b : Nat} {n : Int} {most : Nat} {s : St} {C V L : Int} {D : Bool}
    (h : w.heap[b]? = some (.cells #[.int .i64 n, .int .i64 (most : Int), .int .i64 C, .int .i64 V, .int .i64 L, .bool D] 60 (0, 0)))
    (hC : (cnt s : Int) = C) (hV : (val s.rc : Int) = V) (hL : (s.rc.length : Int) = L) (hD : s.done = D) : IsZR w b n most s := by
  subst hC hV hL hD
  exact h
set_option maxRecDepth 100000 in
set_option maxHeartbeats 2000000 in
theorem zput_stop (b : Nat) (n : Int) (most : Nat) (s : St) (c : Int) (w : World) (h : IsZR w b n most s) (h1 : 1 ≤ n) (h2 : n ≤ 256) (hs : s.done = true ∨ c < 0 ∨ n + 1 < c) :
    Calls Try.prog 24 #[.pointer (some ⟨b, 0, none⟩), .int .i64 c] w (PutP n most s c b w) := by
  have H := Lib.hid h
  obtain ⟨c0, c1, c2, c3, c4, c5, _⟩ := h.cells
  clear h
  by_cases hd : s.done = true
  · have hE : Hid (putE n most s c = 7) := Lib.hid (by unfold putE; rw [if_pos hd])
    rw [hd] at c5
    clear hs
    go_enter Try.func24, Try.ntmps24
    go_wp2_with fail
    go_ret3
    exact ⟨Touch.refl _ _, Or.inr ⟨by rw [hE.out]; decide, by rw [hE.out]; rfl, H.out⟩⟩
  · have hc : c < 0 ∨ n + 1 < c := by rcases hs with h | h; exact absurd h hd; exact h
    have hE : Hid (putE n most s c = 25) := Lib.hid (by unfold putE; rw [if_neg hd, if_pos hc])
    have HK := Lib.hid (kind_none c n w h1 h2 hc)
    rw [show s.done = false by simpa using hd] at c5
    clear hs hc
    go_enter Try.func24, Try.ntmps24
    go_wp2_with fail
    refine HK.out.mono ?_
    rintro e w' ⟨rfl, rfl⟩
    go_wp2_with fail
    go_ret3
    exact ⟨Touch.refl _ _, Or.inr ⟨by rw [hE.out]; decide, by rw [hE.out]; rfl, H.out⟩⟩
set_option maxRecDepth 100000 in
set_option maxHeartbeats 2000000 in
theorem zput_part (b : Nat) (n : Int) (most : Nat) (s : St) (c : Int) (w : World) (h : IsZR w b n most s) (h1 : 1 ≤ n) (h2 : n ≤ 256) (hok : Ok most s) (hm : most ≤ 1099511627776) (hd : s.done = false) (hc0 : 0 ≤ c) (hc2 : c < 2) :
    Calls Try.prog 24 #[.pointer (some ⟨b, 0, none⟩), .int .i64 c] w (PutP n most s c b w) := by
  have H := Lib.hid h
  obtain ⟨c0, c1, c2, c3, c4, c5, f2, f3, f4, f5⟩ := h.cells
  obtain ⟨X, hX⟩ : ∃ X, (1 + c.toNat) * 2 ^ s.rc.length = X := ⟨_, rfl⟩
  have hL := hok.len hm
  have HK := Lib.hid (kind_part c n w h1 h2 hc0 hc2)
  have HF := Lib.hid (further_part b n most s c X w h (by omega) hL hX)
  have hXl : X ≤ 2199023255552 := by
    have hp : 2 ^ s.rc.length ≤ 2 ^ 40 := Nat.pow_le_pow_right (by omega) hL
    rw [← hX]
    simp at hp
    rcases (show c = 0 ∨ c = 1 by omega) with rfl | rfl <;> (simp; omega)
  have hcl := hok.le
  have hcv : val s.rc ≤ cnt s := by unfold cnt; omega
  have hcnt : cnt (putS n s c) = cnt s + X := by rw [cnt_part hc2, hX]
  have hval : val (putS n s c).rc = val s.rc + X := by rw [putS_part hc2]; simp only []; rw [val_snoc, hX]
  have hlen : (putS n s c).rc.length = s.rc.length + 1 := by rw [putS_part hc2]; simp
  have hdn : (putS n s c).done = false := by rw [putS_part hc2]
  have hZ : putZ s c = 0 := by unfold putZ; rw [if_pos hc2]
  have hP : putP n c = -1 := by unfold putP; rw [if_pos (Or.inl hc2)]
  have HZ := Lib.hid hZ
  have HP := Lib.hid hP
  rw [hd] at c5
  by_cases hov : most < cnt s + X
  · have hE : Hid (putE n most s c = 2) := Lib.hid (by unfold putE; rw [if_neg (by simp [hd]), if_neg (by omega), if_pos (by omega)])
    have hov2 : (most : Int) < (cnt s : Int) + (X : Int) := by omega
    have hw1 : IntKind.i64.wrap ((cnt s : Int) + (X : Int)) = (cnt s : Int) + (X : Int) := IntWalk.i64_in _ (by omega)
    clear h hX hcnt hval hlen hdn hZ hP hok hd
    generalize cnt s = C at *
    generalize val s.rc = V at *
    generalize s.rc.length = L at *
    go_enter Try.func24, Try.ntmps24
    go_wp2_with fail
    refine HK.out.mono ?_
    rintro e w' ⟨rfl, rfl⟩
    go_wp2_with fail
    refine HF.out.mono ?_
    rintro e w' ⟨rfl, rfl⟩
    go_wp2_with fail
    go_quiet (fail)
    go_wp2_with fail
    go_ret3
    exact ⟨touch_drewN _ _ _, Or.inr ⟨by rw [hE.out]; decide, by rw [hE.out]; rfl, H.out.drewN _⟩⟩
  · have hE : Hid (putE n most s c = 0) := Lib.hid (putE_zero hd hc0 (by omega) (by omega))
    have hov2 : ¬ (most : Int) < (cnt s : Int) + (X : Int) := by omega
    have hw1 : IntKind.i64.wrap ((cnt s : Int) + (X : Int)) = (cnt s : Int) + (X : Int) := IntWalk.i64_in _ (by omega)
    have hw2 : IntKind.i64.wrap ((val s.rc : Int) + (X : Int)) = (val s.rc : Int) + (X : Int) := IntWalk.i64_in _ (by omega)
    have hw3 : IntKind.i64.wrap ((s.rc.length : Int) + 1) = (s.rc.length : Int) + 1 := IntWalk.i64_in _ (by omega)
    have hcI : Hid ((cnt (putS n s c) : Int) = (cnt s : Int) + (X : Int)) := Lib.hid (by rw [hcnt]; simp)
    have hvI : Hid ((val (putS n s c).rc : Int) = (val s.rc : Int) + (X : Int)) := Lib.hid (by rw [hval]; simp)
    have hlI : Hid (((putS n s c).rc.length : Int) = (s.rc.length : Int) + 1) := Lib.hid (by rw [hlen]; simp)
    have hdI := Lib.hid hdn
    have hH : Hid (w.heap[b]? = some (.cells #[.int .i64 n, .int .i64 (most : Int), .int .i64 (cnt s : Int), .int .i64 (val s.rc : Int), .int .i64 (s.rc.length : Int), .bool false] 60 (0, 0))) := Lib.hid (by
      have := h; unfold IsZR at this; rw [hd] at this; exact this)
    clear h hX hcnt hval hlen hdn hZ hP hok hd
    generalize cnt s = C at *
    generalize val s.rc = V at *
    generalize s.rc.length = L at *
    go_enter Try.func24, Try.ntmps24
    go_wp2_with fail
    refine HK.out.mono ?_
    rintro e w' ⟨rfl, rfl⟩
    go_wp2_with fail
    refine HF.out.mono ?_
    rintro e w' ⟨rfl, rfl⟩
    go_wp2_with fail
    go_quiet (fail)
    go_wp2_with fail
    go_ret3
    refine ⟨touch_cell (touch_cell (touch_cell (touch_drewN _ _ _))), Or.inl ⟨hE.out, by rw [HZ.out, HP.out]; rfl, ?_⟩⟩
    refine zr_of (heap_setCell_same _ b 4 _ _ _ (heap_setCell_same _ b 3 _ _ _ (heap_setCell_same _ b 2 _ _ _ hH.out))) hcI.out hvI.out hlI.out hdI.out
set_option maxRecDepth 100000 in
set_option maxHeartbeats 2000000 in
theorem zput_end (b : Nat) (n : Int) (most : Nat) (s : St) (w : World) (h : IsZR w b n most s) (h1 : 1 ≤ n) (h2 : n ≤ 256) (hok : Ok most s) (hm : most ≤ 1099511627776) (hd : s.done = false) :
    Calls Try.prog 24 #[.pointer (some ⟨b, 0, none⟩), .int .i64 (n + 1)] w (PutP n most s (n + 1) b w) := by
  have H := Lib.hid h
  obtain ⟨c0, c1, c2, c3, c4, c5, f2, f3, f4, f5⟩ := h.cells
  have HK := Lib.hid (kind_end n w h1 h2)
  have HF := Lib.hid (further_end (.pointer (some ⟨b, 0, none⟩)) (.int .i64 (n + 1)) w)
  have hcl := hok.le
  have hn2 : ¬ n + 1 < 2 := by omega
  have hcnt : cnt (putS n s (n + 1)) = cnt s := cnt_end hn2 rfl
  have hval : val (putS n s (n + 1)).rc = 0 := by rw [putS_end hn2 rfl]; rfl
  have hlen : (putS n s (n + 1)).rc.length = 0 := by rw [putS_end hn2 rfl]; rfl
  have hdn : (putS n s (n + 1)).done = true := by rw [putS_end hn2 rfl]
  have HZ : Hid (putZ s (n + 1) = val s.rc) := Lib.hid (by unfold putZ; rw [if_neg hn2])
  have HP : Hid (putP n (n + 1) = -1) := Lib.hid (by unfold putP; rw [if_pos (Or.inr rfl)])
  rw [hd] at c5
  have hE : Hid (putE n most s (n + 1) = 0) := Lib.hid (putE_zero hd (by omega) (by omega) (by omega))
  have hov2 : ¬ (most : Int) < (cnt s : Int) := by omega
  have hw1 : IntKind.i64.wrap (cnt s : Int) = (cnt s : Int) := IntWalk.i64_in _ (by omega)
  have hcI : Hid ((cnt (putS n s (n + 1)) : Int) = (cnt s : Int)) := Lib.hid (by rw [hcnt])
  have hvI : Hid ((val (putS n s (n + 1)).rc : Int) = 0) := Lib.hid (by rw [hval]; rfl)
  have hlI : Hid (((putS n s (n + 1)).rc.length : Int) = 0) := Lib.hid (by rw [hlen]; rfl)
  have hdI := Lib.hid hdn
  have hH : Hid (w.heap[b]? = some (.cells #[.int .i64 n, .int .i64 (most : Int), .int .i64 (cnt s : Int), .int .i64 (val s.rc : Int), .int .i64 (s.rc.length : Int), .bool false] 60 (0, 0))) := Lib.hid (by
    have := h; unfold IsZR at this; rw [hd] at this; exact this)
  clear h hcnt hval hlen hdn hok hd
  generalize cnt s = C at *
  generalize val s.rc = V at *
  generalize s.rc.length = L at *
  generalize n + 1 = c at *
  go_enter Try.func24, Try.ntmps24
  go_wp2_with fail
  refine HK.out.mono ?_
  rintro e w' ⟨rfl, rfl⟩
  go_wp2_with fail
  refine HF.out.mono ?_
  rintro e w' ⟨rfl, rfl⟩
  go_wp2_with fail
  go_quiet (fail)
  go_wp2_with fail
  go_ret3
  refine ⟨touch_cell (touch_cell (touch_cell (touch_cell (touch_drewN _ _ _)))), Or.inl ⟨hE.out, by rw [HZ.out, HP.out]; rfl, ?_⟩⟩
  refine zr_of (heap_setCell_same _ b 5 _ _ _ (heap_setCell_same _ b 4 _ _ _ (heap_setCell_same _ b 3 _ _ _ (heap_setCell_same _ b 2 _ _ _ hH.out)))) hcI.out hvI.out hlI.out hdI.out
set_option maxRecDepth 100000 in
set_option maxHeartbeats 2000000 in
theorem zput_one (b : Nat) (n : Int) (most : Nat) (s : St) (c : Int) (w : World) (h : IsZR w b n most s) (h1 : 1 ≤ n) (h2 : n ≤ 256) (hok : Ok most s) (hm : most ≤ 1099511627776) (hd : s.done = false) (hc0 : 2 ≤ c) (hc2 : c ≤ n) :
    Calls Try.prog 24 #[.pointer (some ⟨b, 0, none⟩), .int .i64 c] w (PutP n most s c b w) := by
  have H := Lib.hid h
  obtain ⟨c0, c1, c2, c3, c4, c5, f2, f3, f4, f5⟩ := h.cells
  have HK := Lib.hid (kind_one c n w h1 h2 hc0 hc2)
  have HF := Lib.hid (further_one (.pointer (some ⟨b, 0, none⟩)) (.int .i64 c) w)
  have hcl := hok.le
  have hn2 : ¬ c < 2 := by omega
  have hn3 : c ≠ n + 1 := by omega
  have hcnt : cnt (putS n s c) = cnt s + 1 := cnt_one hn2 hn3
  have hval : val (putS n s c).rc = 0 := by rw [putS_one hn2 hn3]; rfl
  have hlen : (putS n s c).rc.length = 0 := by rw [putS_one hn2 hn3]; rfl
  have hdn : (putS n s c).done = false := by rw [putS_one hn2 hn3]
  have HZ : Hid (putZ s c = val s.rc) := Lib.hid (by unfold putZ; rw [if_neg hn2])
  have HP : Hid (putP n c = c - 1) := Lib.hid (by unfold putP; rw [if_neg (by omega)])
  rw [hd] at c5
  have hw1 : IntKind.i64.wrap ((cnt s : Int) + 1) = (cnt s : Int) + 1 := IntWalk.i64_in _ (by omega)
  by_cases hov : most < cnt s + 1
  · have hE : Hid (putE n most s c = 2) := Lib.hid (by unfold putE; rw [if_neg (by simp [hd]), if_neg (by omega), if_pos (by omega)])
    have hov2 : (most : Int) < (cnt s : Int) + 1 := by omega
    clear h hcnt hval hlen hdn hok hd
    generalize cnt s = C at *
    generalize val s.rc = V at *
    generalize s.rc.length = L at *
    go_enter Try.func24, Try.ntmps24
    go_wp2_with fail
    refine HK.out.mono ?_
    rintro e w' ⟨rfl, rfl⟩
    go_wp2_with fail
    refine HF.out.mono ?_
    rintro e w' ⟨rfl, rfl⟩
    go_wp2_with fail
    go_quiet (fail)
    go_wp2_with fail
    go_ret3
    exact ⟨touch_drewN _ _ _, Or.inr ⟨by rw [hE.out]; decide, by rw [hE.out]; rfl, H.out.drewN _⟩⟩
  · have hE : Hid (putE n most s c = 0) := Lib.hid (putE_zero hd (by omega) (by omega) (by omega))
    have hov2 : ¬ (most : Int) < (cnt s : Int) + 1 := by omega
    have hw2 : IntKind.i64.wrap (c - 1) = c - 1 := IntWalk.i64_in _ (by omega)
    have hcI : Hid ((cnt (putS n s c) : Int) = (cnt s : Int) + 1) := Lib.hid (by rw [hcnt]; simp)
    have hvI : Hid ((val (putS n s c).rc : Int) = 0) := Lib.hid (by rw [hval]; rfl)
    have hlI : Hid (((putS n s c).rc.length : Int) = 0) := Lib.hid (by rw [hlen]; rfl)
    have hdI := Lib.hid hdn
    have hH : Hid (w.heap[b]? = some (.cells #[.int .i64 n, .int .i64 (most : Int), .int .i64 (cnt s : Int), .int .i64 (val s.rc : Int), .int .i64 (s.rc.length : Int), .bool false] 60 (0, 0))) := Lib.hid (by
      have := h; unfold IsZR at this; rw [hd] at this; exact this)
    clear h hcnt hval hlen hdn hok hd
    generalize cnt s = C at *
    generalize val s.rc = V at *
    generalize s.rc.length = L at *
    go_enter Try.func24, Try.ntmps24
    go_wp2_with fail
    refine HK.out.mono ?_
    rintro e w' ⟨rfl, rfl⟩
    go_wp2_with fail
    refine HF.out.mono ?_
    rintro e w' ⟨rfl, rfl⟩
    go_wp2_with fail
    go_quiet (fail)
    go_wp2_with fail
    go_ret3
    refine ⟨touch_cell (touch_cell (touch_cell (touch_drewN _ _ _))), Or.inl ⟨hE.out, by rw [HZ.out, HP.out]; rfl, ?_⟩⟩
    refine zr_of (heap_setCell_same _ b 4 _ _ _ (heap_setCell_same _ b 3 _ _ _ (heap_setCell_same _ b 2 _ _ _ hH.out))) hcI.out hvI.out hlI.out hdI.out
theorem zput_any (b : Nat) (n : Int) (most : Nat) (s : St) (c : Int) (w : World) (h : IsZR w b n most s) (h1 : 1 ≤ n) (h2 : n ≤ 256) (hok : Ok most s) (hm : most ≤ 1099511627776) :
    Calls Try.prog 24 #[.pointer (some ⟨b, 0, none⟩), .int .i64 c] w (PutP n most s c b w) := by
  by_cases hs : s.done = true ∨ c < 0 ∨ n + 1 < c
  · exact zput_stop b n most s c w h h1 h2 hs
  · have hd : s.done = false := by
      rw [Bool.eq_false_iff]; exact fun e => hs (Or.inl e)
    by_cases hc2 : c < 2
    · exact zput_part b n most s c w h h1 h2 hok hm hd (by omega) hc2
    · by_cases hc3 : c = n + 1
      · subst hc3; exact zput_end b n most s w h h1 h2 hok hm hd
      · exact zput_one b n most s c w h h1 h2 hok hm hd (by omega) (by omega)
end Go.Proofs.Ythfdmmlamomlkaa

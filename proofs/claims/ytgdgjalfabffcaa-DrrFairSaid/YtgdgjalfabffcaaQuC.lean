/-
  slices.Delete OF ONE NUMBER; package queue's cut.
-/
import Derived.Test.YtgdgjalfabffcaaQuB
import Derived.Lib.AppendZeros
import Derived.Deep.AppendSrc
namespace Go.Proofs.Ytgdgjalfabffcaa
open Go.RowKit
set_option linter.unusedVariables false
set_option linter.unusedSimpArgs false
theorem qsl_h (g off k m cap : Nat) (h : k ≤ m) (hc : m ≤ cap) (W : World) : (Instr.slice 28 (.slice (some ⟨g, off, none⟩) m cap) none (some (.int .i64 (k : Int))) none).run Try.prog W = .ok (.slice (some ⟨g, off, none⟩) k cap) W := by
  have hs : (sizeOf (Try.prog.elem 28)).run Try.prog W = .ok 1 W := by kernel_rfl
  rw [run_slice_h W 28 (some ⟨g, off, none⟩) m cap (by kernel_rfl) .i64 _ (by omega) (by omega), hs]
  have e1 : ((k : Int)).toNat = k := by omega
  simp [Result.andThen, sliced, e1, Addr.add]
def slOff (off k cap : Nat) : Nat := if cap = k then off else off + k
theorem qsl_l (g off k m cap : Nat) (h : k ≤ m) (hc : m ≤ cap) (W : World) : (Instr.slice 28 (.slice (some ⟨g, off, none⟩) m cap) (some (.int .i64 (k : Int))) none none).run Try.prog W = .ok (.slice (some ⟨g, slOff off k cap, none⟩) (m - k) (cap - k)) W := by
  have hs : (sizeOf (Try.prog.elem 28)).run Try.prog W = .ok 1 W := by kernel_rfl
  rw [run_slice_l W 28 (some ⟨g, off, none⟩) m cap (by kernel_rfl) .i64 _ (by omega) (by omega), hs]
  have e1 : ((k : Int)).toNat = k := by omega
  unfold slOff
  by_cases e : cap = k
  · simp [Result.andThen, sliced, e1, Addr.add, e]
  · rw [if_neg e]
    simp [Result.andThen, sliced, e1, Addr.add, e]
theorem qsl_lh (g off k j m cap : Nat) (h : k ≤ j) (hj : j ≤ cap) (hk : k < cap) (W : World) : (Instr.slice 28 (.slice (some ⟨g, off, none⟩) m cap) (some (.int .i64 (k : Int))) (some (.int .i64 (j : Int))) none).run Try.prog W = .ok (.slice (some ⟨g, off + k, none⟩) (j - k) (cap - k)) W := by
  have hs : (sizeOf (Try.prog.elem 28)).run Try.prog W = .ok 1 W := by kernel_rfl
  rw [run_slice_lh W 28 (some ⟨g, off, none⟩) m cap (by kernel_rfl) .i64 .i64 _ _ (by omega) (by omega) (by omega), hs]
  have e1 : ((k : Int)).toNat = k := by omega
  have e2 : ((j : Int)).toNat = j := by omega
  have e3 : ¬ cap = k := by omega
  simp [Result.andThen, sliced, e1, e2, e3, Addr.add]
/-- What Delete leaves. -/
theorem QRow.deleted {w : World} {B : Nat} {zs : List Int} {g off cap k : Nat} (h : QRow w B (.slice (some ⟨g, off, none⟩) zs.length cap) zs) (hk : k < zs.length) :
    QRow ((w.setCells g (off + k) ((zs.drop (k + 1)).map iv64)).setCells g (off + (zs.length - 1)) [.int .i64 0]) B (.slice (some ⟨g, off, none⟩) (zs.length - 1) cap) (zs.take k ++ zs.drop (k + 1)) := by
  rcases h with ⟨h, _⟩ | ⟨g', off', cap', n, f, he, hB, hr, h1, h2, h3, h4⟩
  · simp at h
  · simp only [Value.slice.injEq, Option.some.injEq, Addr.mk.injEq, and_true] at he
    obtain ⟨⟨rfl, rfl⟩, _, rfl⟩ := he
    have hl : (zs.take k ++ zs.drop (k + 1)).length = zs.length - 1 := by rw [List.length_append, List.length_take, List.length_drop]; omega
    have r1 := rowIs_setCells ((zs.drop (k + 1)).map iv64) (off + k) w f hr
    have r2 := r1.set (off + (zs.length - 1)) (.int .i64 0)
    refine Or.inr ⟨g, off, cap, n, _, by rw [hl], hB, r2, by omega, h2, h3, fun i hi => ?_⟩
    rw [hl] at hi
    show (if off + i = off + (zs.length - 1) then _ else (if off + k ≤ off + i ∧ off + i < off + k + ((zs.drop (k + 1)).map iv64).length then _ else f (off + i))) = _
    rw [if_neg (by omega), List.length_map, List.length_drop]
    by_cases e : i < k
    · rw [if_neg (by omega), h4 i (by omega), List.getD_eq_getElem?_getD, List.getD_eq_getElem?_getD, List.getElem?_append_left (by rw [List.length_take]; omega), List.getElem?_take, if_pos e]
    · rw [if_pos (by omega), List.getElem?_map, List.getElem?_drop, show k + 1 + (off + i - (off + k)) = i + 1 by omega, List.getElem?_eq_getElem (by omega), List.getD_eq_getElem?_getD, List.getElem?_append_right (by rw [List.length_take]; omega), List.length_take, List.getElem?_drop, show k + 1 + (i - min k zs.length) = i + 1 by omega, List.getElem?_eq_getElem (by omega)]
      rfl
theorem touch_setCells {w0 : World} {b : Nat} : ∀ (vs : List Value) (o : Nat) (w : World), Touch (· = b) w0 w → Touch (· = b) w0 (w.setCells b o vs)
  | [], _, _, h => h
  | v :: r, o, w, h => touch_setCells r (o + 1) _ (touch_cell h)
set_option maxRecDepth 100000 in
set_option maxHeartbeats 2000000 in
theorem del_any (w : World) (B : Nat) (zs : List Int) (g off cap k K1 : Nat) (h : QRow w B (.slice (some ⟨g, off, none⟩) zs.length cap) zs) (hk : k < zs.length) (hK : k + 1 = K1) :
    Calls Try.prog 59 #[.slice (some ⟨g, off, none⟩) zs.length cap, .int .i64 (k : Int), .int .i64 (K1 : Int)] w fun e w' => e = .returned (.slice (some ⟨g, off, none⟩) (zs.length - 1) cap) ∧ QRow w' B (.slice (some ⟨g, off, none⟩) (zs.length - 1) cap) (zs.take k ++ zs.drop (k + 1)) ∧ Touch (· = g) w w' := by
  obtain ⟨i0, hi, hz0, hz1, hz2⟩ := info_parts info_int
  obtain ⟨hle, hmax⟩ : zs.length ≤ cap ∧ cap ≤ maxLen := by
    obtain ⟨_, c, he, h1, h2⟩ := h.shape
    simp only [Value.slice.injEq] at he
    obtain ⟨_, _, rfl⟩ := he
    exact ⟨h1, h2⟩
  have HQ : Hid (∀ j, QRow (((w.drewN j).setCells g (off + k) ((zs.drop (k + 1)).map iv64)).setCells g (off + (zs.length - 1)) [.int .i64 0]) B (.slice (some ⟨g, off, none⟩) (zs.length - 1) cap) (zs.take k ++ zs.drop (k + 1)) ∧ Touch (· = g) w (((w.drewN j).setCells g (off + k) ((zs.drop (k + 1)).map iv64)).setCells g (off + (zs.length - 1)) [.int .i64 0])) := Lib.hid (fun j =>
    ⟨QRow.deleted (w := w.drewN j) (h.same (fun _ _ => rfl)) hk, touch_setCells _ _ _ (touch_setCells _ _ _ (touch_drewN _ _ _))⟩)
  have hlen : ((zs.drop (k + 1)).map iv64).length = zs.length - K1 := by rw [List.length_map, List.length_drop, hK]
  have HA : Hid (∀ j, (Builtin.append_ #[28, 28] 28 #[.slice (some ⟨g, off, none⟩) k cap, .slice (some ⟨g, slOff off K1 cap, none⟩) (zs.length - K1) (cap - K1)]).run Try.prog (w.drewN j) = .ok (.slice (some ⟨g, off, none⟩) (zs.length - 1) cap) ((w.drewN j).setCells g (off + k) ((zs.drop (k + 1)).map iv64))) := Lib.hid (fun j => by
    have hI := (QRow.ints (w := w.drewN j) (h.same (fun _ _ => rfl)))
    obtain ⟨a', cap', he, hc⟩ := hI
    simp only [Value.slice.injEq] at he
    obtain ⟨rfl, _, rfl⟩ := he
    rcases h with ⟨h, _⟩ | ⟨g', off', cap', n, f, he, hB, hr, h1, h2, h3, h4⟩
    · simp at h
    simp only [Value.slice.injEq, Option.some.injEq, Addr.mk.injEq, and_true] at he
    obtain ⟨⟨rfl, rfl⟩, _, rfl⟩ := he
    have hr' : (w.drewN j).rowIs g 3 n f := hr
    have := run_append_room_src (P := Try.prog) (w.drewN j) 28 28 28 3 i0 Try.underlying28 hi g off k cap (.slice (some ⟨g, slOff off K1 cap, none⟩) (zs.length - K1) (cap - K1)) (zs.length - K1) ((zs.drop (k + 1)).map iv64)
      (Src.ofSlice (w.drewN j) Try.underlying28 ⟨g, slOff off K1 cap, none⟩ (zs.length - K1) (cap - K1) _ (by rw [hz1, Nat.mul_one]; exact hlen) (fun i u hu => by
        have hil := (List.getElem?_eq_some_iff.1 hu).1
        rw [hlen] at hil
        rw [List.getElem?_map, List.getElem?_drop, List.getElem?_eq_getElem (by omega)] at hu
        simp only [Option.map_some, Option.some.injEq] at hu
        rw [Addr.add_lit, slOff, if_neg (by omega), show off + K1 + i = off + (k + 1 + i) by omega, hr'.cell (by omega), h4 _ (by omega), List.getD_eq_getElem?_getD, List.getElem?_eq_getElem (by omega), ← hu]
        rfl) (fun u hu => by obtain ⟨y, _, rfl⟩ := List.mem_map.1 hu; rfl)) (by omega)
      (fun i hi2 => by rw [hlen] at hi2; rw [hz1, Nat.mul_one, Nat.add_assoc, hr'.cell (by omega)]; rfl) (fun i _ => hr'.frozen _)
    rw [hz1, Nat.mul_one, show k + (zs.length - K1) = zs.length - 1 by omega] at this
    exact this)
  have HC : Hid (∀ j, (Builtin.clear_ #[28] 0 #[.slice (some ⟨g, off + (zs.length - 1), none⟩) 1 (cap - (zs.length - 1))]).run Try.prog ((w.drewN j).setCells g (off + k) ((zs.drop (k + 1)).map iv64)) = .ok (.tuple #[]) (((w.drewN j).setCells g (off + k) ((zs.drop (k + 1)).map iv64)).setCells g (off + (zs.length - 1)) [.int .i64 0])) := Lib.hid (fun j => by
    rcases h with ⟨h, _⟩ | ⟨g', off', cap', n, f, he, hB, hr, h1, h2, h3, h4⟩
    · simp at h
    simp only [Value.slice.injEq, Option.some.injEq, Addr.mk.injEq, and_true] at he
    obtain ⟨⟨rfl, rfl⟩, _, rfl⟩ := he
    have hr' : (w.drewN j).rowIs g 3 n f := hr
    have r1 := rowIs_setCells ((zs.drop (k + 1)).map iv64) (off + k) (w.drewN j) f hr'
    exact Lib.run_clear_slice _ 28 3 0 (.int .i64 0) Try.underlying28 (fun W => by kernel_rfl) rfl rfl g (off + (zs.length - 1)) 1 _ (by omega) (fun i hi2 => by rw [r1.cell (by omega)]; rfl) (fun i _ => r1.frozen _))
  obtain ⟨M, hM⟩ : ∃ M, zs.length = M := ⟨_, rfl⟩
  obtain ⟨D, hD⟩ : ∃ D, (zs.drop (k + 1)).map iv64 = D := ⟨_, rfl⟩
  obtain ⟨T, hT⟩ : ∃ T, zs.take k ++ zs.drop (k + 1) = T := ⟨_, rfl⟩
  rw [hD] at HA HC HQ
  rw [hT] at HQ ⊢
  rw [hM] at HA HC HQ hk hle ⊢
  clear hT hD hM hlen h
  obtain ⟨M1, hM1⟩ : ∃ M1, M - 1 = M1 := ⟨_, rfl⟩
  rw [hM1] at HA HC HQ ⊢
  have hi1 : (0 : Int) ≤ (k : Int) := by omega
  have hi2 : (k : Int) ≤ (K1 : Int) := by omega
  have hi3 : (K1 : Int) ≤ (M : Int) := by omega
  have hi4 : (M : Int) ≤ (cap : Int) := by omega
  have hne : ((k : Int) == (K1 : Int)) = false := by rw [beq_eq_false_iff_ne]; omega
  have hs1 : ∀ W, _ := fun W => qsl_h g off k M cap (by omega) hle W
  have hs2 : ∀ W, _ := fun W => qsl_l g off K1 M cap (by omega) hle W
  have hs3 : ∀ W, _ := fun W => qsl_lh g off M1 M M1 cap (by omega) (by omega) (by omega) W
  rw [show M - M1 = 1 by omega] at hs3
  go_enter Try.func59, Try.ntmps59
  go_wp2_with fail
  go_still_tail 6, (by kernel_rfl)
  change wpList _ _ _ _ _ (w.drewN 1)
  have hC := HC.out 1
  have hQ := Lib.hid (HQ.out 1)
  have hA := Lib.hid (HA.out 1)
  clear HC HQ HA
  generalize w.drewN 1 = w1 at *
  go_wp2_with (at_builtin; refine Lib.wpList_append_run _ rfl _ _ _ _ rfl _ _ rfl rfl _ _ hA.out ?_)
  go_ret
  exact ⟨rfl, hQ.out⟩
/-- What cut tells, and leaves. -/
def CutP (w w' : World) (B g : Nat) (x : Int) (zs : List Int) (e : Ending) : Prop :=
  ∃ off m cap, e = .returned (.tuple #[.int .i64 x, .slice (some ⟨g, off, none⟩) m cap]) ∧ QRow w' B (.slice (some ⟨g, off, none⟩) m cap) zs ∧ Touch (· = g) w w'
set_option maxRecDepth 100000 in
set_option maxHeartbeats 2000000 in
theorem cut0_any (w : World) (B : Nat) (x : Int) (zs : List Int) (g off m cap : Nat) (h : QRow w B (.slice (some ⟨g, off, none⟩) m cap) (x :: zs)) :
    Calls Try.prog 45 #[.slice (some ⟨g, off, none⟩) m cap, .int .i64 0] w fun e w' => CutP w w' B g x zs e := by
  obtain ⟨hm, hle, hmax⟩ : m = zs.length + 1 ∧ m ≤ cap ∧ cap ≤ maxLen := by
    obtain ⟨_, c, he, h1, h2⟩ := h.shape
    simp only [Value.slice.injEq] at he
    obtain ⟨_, rfl, rfl⟩ := he
    exact ⟨rfl, h1, h2⟩
  have c0 : w.cell? ⟨g, off, none⟩ = some (.int .i64 x) := by
    obtain ⟨b, o, c, he, hc⟩ := h.ints.cell (k := 0) (by simp)
    simp only [Value.slice.injEq, Option.some.injEq, Addr.mk.injEq, and_true] at he
    obtain ⟨⟨rfl, rfl⟩, _⟩ := he
    exact hc
  have ht := h.tail
  subst hm
  have hi0 : (0 : Int) < ((zs.length + 1 : Nat) : Int) := by omega
  have hi1 : (1 : Int) ≤ ((zs.length + 1 : Nat) : Int) := by omega
  by_cases hc : cap = 1
  · subst hc
    obtain rfl : zs = [] := List.eq_nil_of_length_eq_zero (by omega)
    have HE : Hid (∀ j, CutP w (w.drewN j) B g x [] (.returned (.tuple #[.int .i64 x, .slice (some ⟨g, off, none⟩) 0 0]))) := Lib.hid (fun j => by
      refine ⟨_, _, _, rfl, ?_, touch_drewN _ _ _⟩
      exact ht.same (fun _ _ => rfl))
    clear h ht
    go_enter Try.func45, Try.ntmps45
    go_wp2_with fail
    go_quiet (fail)
    go_wp2_with fail
    go_ret2
    exact HE.out _
  · have HE : Hid (∀ j, CutP w (w.drewN j) B g x zs (.returned (.tuple #[.int .i64 x, .slice (some ⟨g, off + 1, none⟩) zs.length (cap - 1)]))) := Lib.hid (fun j => by
      refine ⟨_, _, _, rfl, ?_, touch_drewN _ _ _⟩
      have e : sliced (some ⟨g, off, none⟩) 1 (zs.length + 1) cap 1 = .slice (some ⟨g, off + 1, none⟩) zs.length (cap - 1) := by
        unfold sliced
        rw [if_neg hc]
        simp [Addr.add]
      rw [← e]
      exact ht.same (fun _ _ => rfl))
    clear h ht
    go_enter Try.func45, Try.ntmps45
    go_wp2_with fail
    go_quiet (fail)
    go_wp2_with fail
    go_ret2
    exact HE.out _
set_option maxRecDepth 100000 in
set_option maxHeartbeats 2000000 in
theorem cut_any (w : World) (B : Nat) (zs : List Int) (x : Int) (g off m cap k : Nat) (h : QRow w B (.slice (some ⟨g, off, none⟩) m cap) zs) (hk : zs[k]? = some x) (h0 : 0 < k) :
    Calls Try.prog 45 #[.slice (some ⟨g, off, none⟩) m cap, .int .i64 (k : Int)] w fun e w' => CutP w w' B g x (zs.take k ++ zs.drop (k + 1)) e := by
  have hlt := (List.getElem?_eq_some_iff.1 hk).1
  obtain ⟨hm, hle, hmax⟩ : m = zs.length ∧ m ≤ cap ∧ cap ≤ maxLen := by
    obtain ⟨_, c, he, h1, h2⟩ := h.shape
    simp only [Value.slice.injEq] at he
    obtain ⟨_, rfl, rfl⟩ := he
    exact ⟨rfl, h1, h2⟩
  have c0 : w.cell? ⟨g, off + k, none⟩ = some (.int .i64 x) := by
    obtain ⟨b, o, c, he, hc⟩ := h.ints.cell hlt
    simp only [Value.slice.injEq, Option.some.injEq, Addr.mk.injEq, and_true] at he
    obtain ⟨⟨rfl, rfl⟩, _⟩ := he
    rw [hc, List.getD_eq_getElem?_getD, hk]
    rfl
  subst hm
  obtain ⟨K1, hK1⟩ : ∃ K1, k + 1 = K1 := ⟨_, rfl⟩
  have HD := Lib.hid (del_any w B zs g off cap k K1 h hlt hK1)
  have hj : (k : Int) + 1 = (K1 : Int) := by omega
  have hw : IntKind.i64.wrap (K1 : Int) = (K1 : Int) := IntWalk.i64_in _ (by unfold maxLen at hmax; omega)
  have hi1 : (k : Int) < (zs.length : Int) := by omega
  have hi0 : (0 : Int) ≤ (k : Int) := by omega
  have hne : ((k : Int) == 0) = false := by rw [beq_eq_false_iff_ne]; omega
  clear h hk
  obtain ⟨T, hT⟩ : ∃ T, zs.take k ++ zs.drop (k + 1) = T := ⟨_, rfl⟩
  rw [hT] at HD ⊢
  clear hT hK1
  obtain ⟨M, hM⟩ : ∃ M, zs.length = M := ⟨_, rfl⟩
  rw [hM] at HD hi1 hlt hle ⊢
  clear hM
  go_enter Try.func45, Try.ntmps45
  go_wp2_with fail
  refine HD.out.mono ?_
  rintro e w1 ⟨rfl, h1⟩
  have H1 := Lib.hid h1
  clear h1
  go_wp2_with fail
  go_ret2
  exact ⟨_, _, _, rfl, H1.out⟩
end Go.Proofs.Ytgdgjalfabffcaa

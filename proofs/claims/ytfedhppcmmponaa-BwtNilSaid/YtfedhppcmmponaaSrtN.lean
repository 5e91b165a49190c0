/-
  THE DOCUMENT's ANSWER FOR LAYER 16 (sorter): the steps of a pass, and all steps.
-/
import Derived.Test.YtfedhppcmmponaaSrtMathB
import Derived.Test.YtfedhppcmmponaaRotB
import Derived.StillTailTactics
import Derived.BigQuiet
namespace Go.Proofs.Ytfedhppcmmponaa
open Go.RowKit BwtM SrtM PkM
set_option linter.unusedVariables false
set_option linter.unusedSimpArgs false
theorem passS_bnd (n : Nat) (hn : n ≤ 20000) : passS n ≤ 20000 * 48 + 1 := by
  rcases Nat.eq_zero_or_pos n with rfl | h0
  · rw [passS_small (by omega)]; omega
  · have := passS_le n 15 h0 (by have : (2 : Nat) ^ 15 = 32768 := by decide
                                 omega)
    have h2 : n * (3 + 3 * 15) ≤ 20000 * 48 := Nat.mul_le_mul hn (by omega)
    omega
set_option maxHeartbeats 1000000 in
theorem rpass_any : ∀ (n : Nat) (w : World), n ≤ 20000 → Calls Try.prog 47 #[.int .i64 (n : Int)] w fun e w' => e = .returned (.int .i64 (passS n : Int)) ∧ w' = w := by
  intro n
  induction n using Nat.strongRecOn with
  | _ n ih =>
    intro w hn
    by_cases h2 : n < 2
    · rw [passS_small h2]
      have h2i : (n : Int) < 2 := by omega
      go_enter Try.func47, Try.ntmps47
      go_wp2_with fail
      go_ret
      exact ⟨rfl, rfl⟩
    · have h2i : ¬ (n : Int) < 2 := by omega
      obtain ⟨f, hf⟩ : ∃ f, n / 2 = f := ⟨_, rfl⟩
      obtain ⟨g, hg⟩ : ∃ g, n - f = g := ⟨_, rfl⟩
      have H1 := Lib.hid (fun w => ih f (by omega) w (by omega))
      have H2 := Lib.hid (fun w => ih g (by omega) w (by omega))
      have b1 := passS_bnd f (by omega)
      have b2 := passS_bnd g (by omega)
      have hp : passS n = 1 + passS f + passS g + f + n := by rw [passS_big (by omega), hf, hg]
      rw [hp]
      obtain ⟨a, ha⟩ : ∃ a, passS f = a := ⟨_, rfl⟩
      obtain ⟨c, hc⟩ : ∃ c, passS g = c := ⟨_, rfl⟩
      rw [ha] at b1 H1 ⊢
      rw [hc] at b2 H2 ⊢
      have hfi : (n : Int) / 2 = (f : Int) := by omega
      have hft : (n : Int).tdiv 2 = (f : Int) := by rw [Int.tdiv_eq_ediv_of_nonneg (by omega)]; exact hfi
      have hfw : IntKind.i64.wrap (f : Int) = (f : Int) := IntWalk.i64_in _ (by omega)
      have hgi : (n : Int) - (f : Int) = (g : Int) := by omega
      have hgw : IntKind.i64.wrap (g : Int) = (g : Int) := IntWalk.i64_in _ (by omega)
      obtain ⟨s1, hs1⟩ : ∃ s1, 1 + a = s1 := ⟨_, rfl⟩
      obtain ⟨s2, hs2⟩ : ∃ s2, s1 + c = s2 := ⟨_, rfl⟩
      obtain ⟨s3, hs3⟩ : ∃ s3, s2 + f = s3 := ⟨_, rfl⟩
      obtain ⟨s4, hs4⟩ : ∃ s4, s3 + n = s4 := ⟨_, rfl⟩
      have k1 : (1 : Int) + (a : Int) = (s1 : Int) := by omega
      have k2 : (s1 : Int) + (c : Int) = (s2 : Int) := by omega
      have k3 : (s2 : Int) + (f : Int) = (s3 : Int) := by omega
      have k4 : (s3 : Int) + (n : Int) = (s4 : Int) := by omega
      have v1 : IntKind.i64.wrap (s1 : Int) = (s1 : Int) := IntWalk.i64_in _ (by omega)
      have v2 : IntKind.i64.wrap (s2 : Int) = (s2 : Int) := IntWalk.i64_in _ (by omega)
      have v3 : IntKind.i64.wrap (s3 : Int) = (s3 : Int) := IntWalk.i64_in _ (by omega)
      have v4 : IntKind.i64.wrap (s4 : Int) = (s4 : Int) := IntWalk.i64_in _ (by omega)
      rw [hs1, hs2, hs3, hs4]
      clear ih hf hg ha hc hs1 hs2 hs3 hs4 hp
      go_enter Try.func47, Try.ntmps47
      go_wp2_with fail
      refine (H1.out _).mono ?_
      rintro e w' ⟨rfl, rfl⟩
      go_wp2_with fail
      refine (H2.out _).mono ?_
      rintro e w' ⟨rfl, rfl⟩
      go_wp2_with fail
      go_ret
      exact ⟨rfl, rfl⟩
def strSize : Value → Nat
  | .string s => s.size
  | _ => 0
/-- The first bytes of a rotation. -/
def begT (s : ByteArray) (i n : Nat) : ByteArray := (rotT s i).extract 0 n
theorem begT_data (s : ByteArray) (i n : Nat) : (begT s i n).data.toList = (rot s.data.toList i).take n := by unfold begT; rw [rot_takeD, rotT_data]
set_option maxHeartbeats 1000000 in
theorem rbegin_any (s : ByteArray) (i n : Nat) (w : World) (hs : s.size ≤ 1000000) (hi : i < s.size) (h1 : 1 ≤ n) (hn : n ≤ s.size) :
    Calls Try.prog 55 #[.string s, .int .i64 (i : Int), .int .i64 (n : Int)] w fun e w' => e = .returned (.string (begT s i n)) ∧ Below w.heap.size w w' := by
  have HR := Lib.hid (fun w => rrotation_any s i w (by omega) (by omega))
  have hsz := rotT_size s i (by omega)
  go_enter Try.func55, Try.ntmps55
  obtain ⟨r, hr⟩ : ∃ r, rotT s i = r := ⟨_, rfl⟩
  have HB : Hid (begT s i n = r.extract 0 n) := Lib.hid (by rw [← hr]; rfl)
  rw [hr] at HR hsz
  have hz1 : (⟨#[]⟩ : ByteArray).size = 0 := rfl
  have hz0 : r.size ≤ 1000000 := by omega
  have hnl : (n : Int) ≤ (r.size : Int) := by omega
  have hn0 : (0 : Int) ≤ (n : Int) := by omega
  have hadd : (⟨#[]⟩ : ByteArray) ++ r = r := ByteArray.empty_append
  have hn1 : (0 : Int) < (n : Int) := by omega
  rw [HB.out]
  clear hr HB
  go_wp2_with fail
  go_loopw [7] (fun vo wr => (vo = .string ⟨#[]⟩ ∨ vo = .string r) ∧ Below w.heap.size w wr) (fun vo _ => n - strSize vo)
  case atStart => exact ⟨Or.inl rfl, Below.refl _ _⟩
  case round =>
    obtain ⟨hv, hB⟩ := hrel
    have HBB := Lib.hid hB
    clear hB
    rcases hv with rfl | rfl
    · go_wp2_with fail
      refine (HR.out _).mono ?_
      rintro e w2 ⟨rfl, hb2⟩
      have HB2 := Lib.hid (HBB.out.trans (hb2.mono HBB.out.size))
      clear hb2
      go_wp2_with fail
      go_roundw
      case rel => exact ⟨Or.inr rfl, HB2.out⟩
      case measure => simp [strSize]; omega
    · go_wp2_with fail
      go_ret
      exact ⟨rfl, HBB.out⟩
theorem begT_eq {s : ByteArray} {i k n : Nat} (hi : i ≤ s.size) (hk : k ≤ s.size) (hn : n ≤ s.size) : begT s i n = begT s k n ↔ eqH s.data.toList n i k := by
  rw [text_inj, begT_data, begT_data]
  have hl : s.data.toList.length = s.size := txt_len s
  have g : ∀ a t, a ≤ s.size → t < n → (((rot s.data.toList a).take n)[t]?).map (·.toNat) = some (bt s.data.toList (a + t)) := by
    intro a t ha ht
    rw [List.getElem?_take_of_lt ht]
    have hr : t < (rot s.data.toList a).length := by rw [rot_len _ _ (by rw [hl]; exact ha)]; omega
    have := rot_getD s.data.toList (i := a) (j := t) (by rw [hl]; exact ha) (by rw [hl]; omega)
    rw [← this, List.getD_eq_getElem?_getD, List.getElem?_eq_getElem hr]
    rfl
  constructor
  · intro h t ht
    have h1 := g i t hi ht
    rw [h, g k t hk ht] at h1
    exact (Option.some.inj h1).symm
  · intro h
    apply List.ext_getElem?
    intro t
    rcases Nat.lt_or_ge t n with c | c
    · have h1 := g i t hi c
      have h2 := g k t hk c
      rw [h t c, ← h2] at h1
      exact Option.map_injective (f := fun (x : UInt8) => x.toNat) (fun a b e => UInt8.toNat.inj e) h1
    · rw [List.getElem?_eq_none, List.getElem?_eq_none]
      · rw [List.length_take]; omega
      · rw [List.length_take]; omega
set_option maxHeartbeats 2000000 in
theorem runlike_any (s : ByteArray) (n : Nat) (r : Bool) (w : World) (hs : s.size ≤ 1000000) (h1 : 1 ≤ n) (hn : n ≤ s.size) (hr : r = true ↔ Unlike s.data.toList n) :
    Calls Try.prog 48 #[.string s, .int .i64 (n : Int)] w fun e w' => e = .returned (.bool r) ∧ Below w.heap.size w w' := by
  have HR := Lib.hid hr
  obtain ⟨sz, hsz⟩ : ∃ sz, s.size = sz := ⟨_, rfl⟩
  have HSZ := Lib.hid hsz
  have HBG := Lib.hid (fun (i : Nat) w (hi : i < s.size) => rbegin_any s i n w hs hi h1 hn)
  have hl : s.data.toList.length = sz := by rw [txt_len, hsz]
  have HL := Lib.hid hl
  have hsi : (s.size : Int) = (sz : Int) := by omega
  rw [hsz] at hs hn
  clear hr hl hsz
  go_enter Try.func48, Try.ntmps48
  go_wp2_with fail
  go_loopw [9, 5, 13, 6] (fun vi _ _ _ wr => ∃ i : Nat, vi = .int .i64 (i : Int) ∧ i ≤ sz ∧ (∀ a c, a < i → c < a → ¬ eqH s.data.toList n a c) ∧ Below w.heap.size w wr) (fun vi _ _ _ _ => sz - (intOf vi).toNat)
  case atStart => exact ⟨0, rfl, Nat.zero_le _, fun a c h => by omega, Below.refl _ _⟩
  case round =>
    obtain ⟨i, rfl, hi, hU, hB⟩ := hrel
    have HU := Lib.hid hU
    have HB := Lib.hid hB
    clear hU hB
    obtain ⟨wa, rfl⟩ : ∃ wa : World, wa = wr := ⟨_, rfl⟩
    by_cases hic : i < sz
    · have hii : (i : Int) < (sz : Int) := by omega
      go_wp2_with fail
      go_loopw [13, 6] (fun vk _ wr => ∃ k : Nat, vk = .int .i64 (k : Int) ∧ k ≤ i ∧ (∀ c, c < k → ¬ eqH s.data.toList n i c) ∧ Below w.heap.size w wr) (fun vk _ _ => i - (intOf vk).toNat)
      case atStart => exact ⟨0, rfl, Nat.zero_le _, fun c h => by omega, HB.out⟩
      case round =>
        obtain ⟨k, rfl, hk, hV, hB2⟩ := hrel
        have HV := Lib.hid hV
        have HB2 := Lib.hid hB2
        clear hV hB2
        by_cases hki : k < i
        · have hkii : (k : Int) < (i : Int) := by omega
          have hkz : k < sz := by omega
          have HBI := Lib.hid (fun w => HBG.out i w (by rw [HSZ.out]; exact hic))
          have HBK := Lib.hid (fun w => HBG.out k w (by rw [HSZ.out]; exact hkz))
          have HE : Hid (begT s i n = begT s k n ↔ eqH s.data.toList n i k) := Lib.hid (begT_eq (by rw [HSZ.out]; exact hi) (by rw [HSZ.out]; omega) (by rw [HSZ.out]; exact hn))
          obtain ⟨ti, hti⟩ : ∃ t, begT s i n = t := ⟨_, rfl⟩
          obtain ⟨tk, htk⟩ : ∃ t, begT s k n = t := ⟨_, rfl⟩
          rw [hti, htk] at HE
          rw [hti] at HBI
          rw [htk] at HBK
          clear hti htk
          by_cases he : ti = tk
          · have hT : (ti.toList == tk.toList) = true := list_eq_test ti tk true ⟨fun _ => he, fun _ => rfl⟩
            have hrf : r = false := by
              rcases Bool.eq_false_or_eq_true r with c | c
              · exact absurd (HE.out.1 he) (HR.out.1 c i k (by rw [HL.out]; exact hic) (by rw [HL.out]; exact hkz) (by omega))
              · exact c
            subst hrf
            clear he
            go_wp2_with fail
            refine (HBI.out _).mono ?_
            rintro e w2 ⟨rfl, hb2⟩
            have HB3 := Lib.hid (HB2.out.trans (hb2.mono HB2.out.size))
            clear hb2
            go_wp2_with fail
            refine (HBK.out _).mono ?_
            rintro e w3 ⟨rfl, hb3⟩
            have HB4 := Lib.hid (HB3.out.trans (hb3.mono HB3.out.size))
            clear hb3
            go_wp2_with fail
            go_ret
            exact ⟨rfl, HB4.out⟩
          · have hT : (ti.toList == tk.toList) = false := list_eq_test ti tk false ⟨fun h => (by cases h), fun h => absurd h he⟩
            have HN := Lib.hid (fun g => he (HE.out.2 g))
            clear he
            go_wp2_with fail
            refine (HBI.out _).mono ?_
            rintro e w2 ⟨rfl, hb2⟩
            have HB3 := Lib.hid (HB2.out.trans (hb2.mono HB2.out.size))
            clear hb2
            go_wp2_with fail
            refine (HBK.out _).mono ?_
            rintro e w3 ⟨rfl, hb3⟩
            have HB4 := Lib.hid (HB3.out.trans (hb3.mono HB3.out.size))
            clear hb3
            go_wp2_with fail
            go_roundw
            case rel => exact ⟨k + 1, by go_num, by omega, fun c hc => by
              rcases (by omega : c < k ∨ c = k) with e | e
              · exact HV.out c e
              · rw [e]; exact HN.out, HB4.out⟩
            case measure => simp [intOf]; omega
        · have hkii : ¬ (k : Int) < (i : Int) := by omega
          go_wp2_with fail
          go_roundw
          case rel => exact ⟨i + 1, by go_num, by omega, fun a c ha hc => by
            rcases (by omega : a < i ∨ a = i) with e | e
            · exact HU.out a c e hc
            · subst e; exact HV.out c (by omega), HB2.out⟩
          case measure => simp [intOf]; omega
    · have hii : ¬ (i : Int) < (sz : Int) := by omega
      have hrt : r = true := HR.out.2 (fun a c ha hc hne => by
        rw [HL.out] at ha hc
        rcases Nat.lt_or_ge c a with g | g
        · exact HU.out a c (by omega) g
        · exact fun e => HU.out c a (by omega) (by omega) e.symm)
      subst hrt
      go_wp2_with fail
      go_ret
      exact ⟨rfl, HB.out⟩
end Go.Proofs.Ytfedhppcmmponaa

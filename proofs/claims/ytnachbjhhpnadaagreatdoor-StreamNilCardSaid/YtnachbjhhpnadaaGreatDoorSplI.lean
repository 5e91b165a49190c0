/-
  LAYER 19's CODE (package split): a splitter over a text.
-/
import Derived.Test.YtnachbjhhpnadaaGreatDoorSplH
import Derived.Test.YtnachbjhhpnadaaGreatDoorRleRefB
import Derived.Test.YtnachbjhhpnadaaGreatDoorSplCnt
namespace Go.Proofs.YtnachbjhhpnadaaGreatDoor
open Go.RowKit RleM SplM
set_option linter.unusedVariables false
set_option linter.unusedSimpArgs false
/-- At most one piece. -/
def OneP (ps : List Pc) : Prop := ps = [] ∨ ∃ p : Pc, ps = [p] ∧ 1 ≤ p.2 ∧ p.2 ≤ 255
theorem OneP.facts {ps : List Pc} (h : OneP ps) : dec (pack ps) = (flat ps, 0) ∧ (pack ps).length ≤ 1000 ∧ (flat ps).length ≤ 1000 := by
  rcases h with rfl | ⟨p, rfl, h1, h2⟩
  · exact ⟨blk_dec (b := []) trivial, by simp [pack], by simp [flat]⟩
  · refine ⟨blk_dec (b := [p]) ⟨h1, h2, fun q hq => by simp at hq, trivial⟩, ?_, ?_⟩
    · rw [pack_one]
      have := SplM.packP_le p
      omega
    · simp [flat]
      omega
theorem pstep_ps {l T : List UInt8} {c : UInt8} {n : Nat} {QS : List Pc} (h : SureP l T c n QS) (x : UInt8) : ∃ ps, (pstep c n x).1 = pack ps ∧ OneP ps ∧ SureP (l ++ [x]) (T ++ pack ps) (pstep c n x).2.1 (pstep c n x).2.2 (QS ++ ps) := by
  obtain ⟨h1, h2, h3, h4⟩ := h
  by_cases hn : n = 0
  · subst hn
    obtain ⟨rfl, h5⟩ := h4 rfl
    rw [if_pos rfl, List.append_nil] at h1
    have hp := pieces_new l x (fun p hp => Or.inr (h5 p (by rw [← h1]; exact hp)))
    have e : pstep 0 0 x = ([], (x, 1)) := by
      unfold pstep
      by_cases hx : x = 0
      · rw [if_pos hx, if_pos hx]; rfl
      · rw [if_neg hx, if_neg hx]; rfl
    rw [e]
    refine ⟨[], rfl, Or.inl rfl, ?_, by simp [h2, pack], by show 1 ≤ 254; omega, fun h => by cases h⟩
    rw [hp, h1]; simp
  · rw [if_neg hn] at h1
    by_cases hx : x = c
    · subst hx
      have hp := pieces_grow l QS x n h1 (by omega)
      by_cases hm : n + 1 = 255
      · have e : pstep x n x = ([] ++ packP (x, 255), (0, 0)) := by
          unfold pstep; rw [if_pos rfl, if_pos rfl]; simp only; rw [if_pos hm]
        rw [e]
        refine ⟨[(x, 255)], ?_, Or.inr ⟨_, rfl, by simp, by simp⟩, ?_, ?_, Nat.zero_le _, fun _ => ⟨rfl, fun p hp => ?_⟩⟩
        · rw [pack_one]; simp
        · rw [hp, hm]; simp
        · rw [pack_append, h2]
        · have : (x, 255) = p := by simpa using hp
          rw [← this]
      · have e : pstep x n x = ([], (x, n + 1)) := by
          unfold pstep; rw [if_pos rfl, if_pos rfl]; simp only; rw [if_neg hm]
        rw [e]
        exact ⟨[], rfl, Or.inl rfl, by rw [hp]; simp, by simp [h2, pack], by simp only; omega, fun h => by simp at h⟩
    · have hp := pieces_new l x (fun p hp => by
        rw [h1] at hp
        have : (c, n) = p := by simpa using hp
        rw [← this]
        exact Or.inl hx)
      have e : pstep c n x = (packP (c, n), (x, 1)) := by
        unfold pstep; rw [if_neg hx, if_neg hx]
        show (if 1 = 255 then _ else _) = _
        rw [if_neg (by decide)]
        unfold packR; rw [if_neg hn]
      rw [e]
      exact ⟨[(c, n)], (pack_one _).symm, Or.inr ⟨_, rfl, by show 1 ≤ n; omega, by show n ≤ 255; omega⟩, by rw [hp, h1]; simp, by rw [pack_append, h2], by show 1 ≤ 254; omega, fun h => by cases h⟩
theorem SureP.zero : SureP [] [] 0 0 [] := ⟨rfl, rfl, Nat.zero_le _, fun _ => ⟨rfl, fun p h => by cases h⟩⟩
/-- The pieces that are sure stand for no more bytes than came. -/
theorem sure_flat {l T : List UInt8} {c : UInt8} {n : Nat} {QS : List Pc} (h : SureP l T c n QS) : (flat QS).length ≤ l.length := by
  have := flat_pieces l
  rw [h.pieces, flat_append] at this
  have e := congrArg List.length this
  rw [List.length_append] at e
  omega
section
variable {B t pb sb room : Nat} {w w' : World} {c : UInt8} {n : Nat} {bv : Value} {tp : Option Nat} {l T : List UInt8} {QS : List Pc}
/-- What a byte comes to. -/
def PutR (room : Nat) (QS QS2 : List Pc) (e : Ending) : Prop :=
  (∃ b, e = .returned (.tuple #[.agg (blkV b), .bool true]) ∧ (runS room QS2).1 = (runS room QS).1 ++ [b]) ∨ (e = .returned (.tuple #[.agg blk0, .bool false]) ∧ (runS room QS2).1 = (runS room QS).1)
theorem sput_run (x : UInt8) (w : World) (h : IsSp B w t pb sb room c n (runS room QS).2 bv tp) (hs : SureP l T c n QS) (hT : Sizes w) (hg : 2 < B) (h5 : 5 ≤ room) (hr : room ≤ 900000) (hl : l.length ≤ 1000000) :
    Calls Tryz.prog 243 #[.pointer (some ⟨t, 0, none⟩), .int .u8 (x.toNat : Int)] w fun e w' => ∃ T2 QS2, SureP (l ++ [x]) T2 (pstep c n x).2.1 (pstep c n x).2.2 QS2 ∧ PutR room QS QS2 e ∧ TakP B w w' t pb sb room (pstep c n x).2.1 (pstep c n x).2.2 (runS room QS2).2 bv := by
  obtain ⟨ps, hps, ho, hs2⟩ := pstep_ps hs x
  obtain ⟨f1, f2, f3⟩ := ho.facts
  have hR := rightS room h5 QS
  have hnow := hR.now
  have hfl := now_flat room h5 QS
  have hsf := sure_flat hs
  refine (sput_any x ps w h hT hg (fun e => (hs.none e).1) hs.le hps f1 f2 (by omega) (by omega) f3 (by omega)).mono ?_
  rintro e w' ⟨rfl, hk⟩
  refine ⟨_, QS ++ ps, hs2, ?_, ?_⟩
  · rcases ho with rfl | ⟨p, rfl, _, _⟩
    · have hn : ¬ room < (pack (runS room QS).2).length + (pack ([] : List Pc)).length := by rw [show (pack ([] : List Pc)).length = 0 from rfl]; omega
      rw [if_neg hn, decide_eq_false hn, List.append_nil]
      exact Or.inr ⟨rfl, rfl⟩
    · unfold PutR
      rw [runS_snoc]
      unfold stepS
      rw [pack_one]
      by_cases hc : room < (pack (runS room QS).2).length + (packP p).length
      · rw [if_pos hc, if_pos hc, decide_eq_true hc]
        exact Or.inl ⟨_, rfl, rfl⟩
      · rw [if_neg hc, if_neg hc, decide_eq_false hc]
        exact Or.inr ⟨rfl, rfl⟩
  · rcases ho with rfl | ⟨p, rfl, _, _⟩
    · have hn : ¬ room < (pack (runS room QS).2).length + (pack ([] : List Pc)).length := by rw [show (pack ([] : List Pc)).length = 0 from rfl]; omega
      rw [if_neg hn] at hk
      rw [List.append_nil] at hk ⊢
      exact hk
    · rw [runS_snoc]
      unfold stepS
      rw [pack_one] at hk
      by_cases hc : room < (pack (runS room QS).2).length + (packP p).length
      · rw [if_pos hc] at hk ⊢
        exact hk
      · rw [if_neg hc] at hk ⊢
        exact hk
theorem send_run (w : World) (h : IsSp B w t pb sb room c n (runS room QS).2 bv tp) (hs : SureP l T c n QS) (hT : Sizes w) (hg : 2 < B) (h5 : 5 ≤ room) (hr : room ≤ 900000) (hl : l.length ≤ 1000000) :
    Calls Tryz.prog 244 #[.pointer (some ⟨t, 0, none⟩)] w fun e w' => ∃ v bs, e = .returned v ∧ EndP B w w' t pb sb room bv v bs ∧ (runS room QS).1 ++ bs = blks room l := by
  have hR := rightS room h5 QS
  have hnow := hR.now
  have hfl := now_flat room h5 QS
  have hsf := sure_flat hs
  have hgood := good l
  rw [hs.pieces] at hgood
  have hblk : blks room l = endS (runS room (QS ++ (if n = 0 then [] else [(c, n)]))) := by unfold blks; rw [hs.pieces]
  rw [hblk]
  have hpos : (runS room QS).2 ≠ [] → 0 < (pack (runS room QS).2).length := fun hne => by
    refine pack_pos hne (fun p hp => ?_)
    have hm : p ∈ QS := by rw [← hR.all]; exact List.mem_append_right _ hp
    exact (good_mem (good_left hgood) hm).1
  by_cases hn : n = 0
  · subst hn
    rw [if_pos rfl, List.append_nil]
    have hps : packR c 0 = pack [] := rfl
    obtain ⟨f1, f2, f3⟩ := (show OneP [] from Or.inl rfl).facts
    unfold endS
    by_cases he : (runS room QS).2 = []
    · rw [if_pos he]
      refine (send19_none [] w h hT hg (fun e => (hs.none e).1) hs.le hps f1 f2 (by omega) (by omega) f3 (by omega) (by rw [show (pack ([] : List Pc)).length = 0 from rfl]; omega) (by rw [he]; rfl)).mono ?_
      rintro e w' ⟨v, rfl, hk⟩
      exact ⟨v, [], rfl, hk, rfl⟩
    · rw [if_neg he]
      refine (send19_one [] w h hT hg (fun e => (hs.none e).1) hs.le hps f1 f2 (by omega) (by omega) f3 (by omega) (by rw [show (pack ([] : List Pc)).length = 0 from rfl]; omega) (by rw [List.append_nil]; exact hpos he)).mono ?_
      rintro e w' ⟨v, rfl, hk⟩
      rw [List.append_nil] at hk
      exact ⟨v, [_], rfl, hk, rfl⟩
  · rw [if_neg hn]
    have hps : packR c n = pack [(c, n)] := by unfold packR; rw [if_neg hn, pack_one]
    have hle := hs.le
    obtain ⟨f1, f2, f3⟩ := (show OneP [(c, n)] from Or.inr ⟨_, rfl, by show 1 ≤ n; omega, by show n ≤ 255; omega⟩).facts
    have hpp := packP_pos (p := (c, n)) (by show 1 ≤ n; omega)
    rw [runS_snoc]
    unfold stepS
    by_cases hc : (pack (runS room QS).2).length + (packP (c, n)).length > room
    · rw [if_pos hc]
      refine (send19_two [(c, n)] w h hT hg (fun e => (hs.none e).1) hs.le hps f1 f2 (by omega) (by omega) f3 (by omega) (by rw [pack_one]; exact hc) (by rw [pack_one]; omega)).mono ?_
      rintro e w' ⟨v, rfl, hk⟩
      refine ⟨v, _, rfl, hk, ?_⟩
      unfold endS
      simp
    · rw [if_neg hc]
      refine (send19_one [(c, n)] w h hT hg (fun e => (hs.none e).1) hs.le hps f1 f2 (by omega) (by omega) f3 (by omega) (by rw [pack_one]; omega) (by rw [pack_append, List.length_append, pack_one]; omega)).mono ?_
      rintro e w' ⟨v, rfl, hk⟩
      refine ⟨v, _, rfl, hk, ?_⟩
      unfold endS
      simp
end
end Go.Proofs.YtnachbjhhpnadaaGreatDoor

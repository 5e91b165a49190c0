/-
  LAYER 21's STATEMENTS: the stream of the empty text (none); StreamNil.
-/
import Derived.Test.YtnachbjhhpnadaaGreatDoorStrA
import Derived.Test.YtnachbjhhpnadaaGreatDoorRleTab
import Derived.LaidSub
namespace Go.Proofs.YtnachbjhhpnadaaGreatDoor
open Go.RowKit RleM SplM BitM
set_option linter.unusedVariables false
set_option linter.unusedSimpArgs false
theorem end_bytes : byts (endQ ++ padding endQ) = [66, 90, 104, 57, 23, 114, 69, 56, 80, 144, 0, 0, 0, 0] := by decide +kernel
theorem none_blks : blks 899981 (⟨#[]⟩ : ByteArray).data.toList = [] := by decide +kernel
set_option maxRecDepth 100000 in
set_option maxHeartbeats 4000000 in
theorem twith_none (w : World) (hT : Sizes w) : Calls Tryz.prog 147 #[.int .i64 9, .int .i64 100000, .string ⟨#[]⟩] w fun e w' => e = .returned (.tuple #[.string ⟨#[66, 90, 104, 57, 23, 114, 69, 56, 80, 144, 0, 0, 0, 0]⟩, .int .i64 0]) ∧ Below w.heap.size w w' := by
  have HR := Lib.hid (room_nine w)
  have HN := Lib.hid (tnew_nine w)
  have HSZ := Lib.hid hT
  have HOF := Lib.hid (fun W (h : Sizes W) => sof19_any ⟨#[]⟩ 899981 W (by omega) (by omega) (by decide) h)
  rw [none_blks] at HOF
  rw [show ((899981 : Nat) : Int) = 899981 from rfl] at HOF
  clear hT
  go_enter Tryz.func147, Tryz.ntmps147
  go_wp2_with fail
  refine HR.out.mono ?_
  rintro e w0 ⟨rfl, rfl⟩
  go_wp2_with fail
  refine HN.out.mono ?_
  rintro e w1 ⟨t, g, rfl, h1, hb1⟩
  have H1 := Lib.hid h1
  have HB1 := Lib.hid hb1
  have HS1 := Lib.hid (HSZ.out.below hb1 HSZ.out.lt)
  clear h1 hb1 HR HN
  go_wp2_with fail
  refine (HOF.out _ HS1.out).mono ?_
  rintro e w2 ⟨v, rfl, hO, hb2⟩
  obtain ⟨a, cap, rfl⟩ := hO.slice
  rw [show ([] : List (List Pc)).length = 0 from rfl]
  have H2 := Lib.hid (H1.out.below hb2)
  have HB2 := Lib.hid (HB1.out.trans (hb2.mono HB1.out.size))
  clear hO hb2
  go_wp2_with fail
  go_loopw [38] (fun vj wr => vj = .int .i64 0 ∧ wr = w2) (fun _ _ => 0)
  case atStart => exact ⟨rfl, rfl⟩
  case round =>
    obtain ⟨rfl, rfl⟩ := hrel
    go_wp2_with fail
    refine (tend_any _ H2.out).mono ?_
    rintro e w3 ⟨rfl, h3, hb3⟩
    have HB3 := Lib.hid (HB2.out.trans hb3)
    have HK := Lib.hid (ttake_any w3 h3 HB3.out.size)
    rw [end_bytes] at HK
    clear h3 hb3
    go_wp2_with fail
    refine HK.out.mono ?_
    rintro e w4 ⟨rfl, hb4⟩
    have HB4 := Lib.hid (HB3.out.trans hb4)
    clear hb4
    go_wp2_with fail
    go_ret2
    exact ⟨rfl, HB4.out⟩
set_option maxHeartbeats 1000000 in
theorem tmost_five (w : World) : Calls Tryz.prog 87 #[.int .i64 5] w fun e w' => e = .returned (.int .i64 12015) ∧ Below w.heap.size w w' := by
  have HN := Lib.hid (snew19_any 5 w (by omega) (by omega))
  rw [show ((5 : Nat) : Int) = 5 from rfl] at HN
  go_enter Tryz.func87, Tryz.ntmps87
  go_wp2_with fail
  refine HN.out.mono ?_
  rintro e w1 ⟨t, pb, sb, rfl, _, hb1⟩
  have HB1 := Lib.hid hb1
  clear hb1
  go_wp2_with fail
  go_ret
  exact ⟨rfl, HB1.out⟩
set_option maxHeartbeats 1000000 in
theorem tmost_four (w : World) : Calls Tryz.prog 87 #[.int .i64 4] w fun e w' => e = .returned (.int .i64 0) ∧ w' = w := by
  have HN := Lib.hid (snew19_bad 4 w (by omega))
  go_enter Tryz.func87, Tryz.ntmps87
  go_wp2_with fail
  refine HN.out.mono ?_
  rintro e w1 ⟨rfl, rfl⟩
  go_wp2_with fail
  go_ret
  exact ⟨rfl, rfl⟩
set_option maxHeartbeats 1000000 in
theorem tencode_none (w : World) (hT : Sizes w) : Calls Tryz.prog 86 #[.int .i64 9, .string ⟨#[]⟩] w fun e w' => e = .returned (.tuple #[.string ⟨#[66, 90, 104, 57, 23, 114, 69, 56, 80, 144, 0, 0, 0, 0]⟩, .int .i64 0]) ∧ Below w.heap.size w w' := by
  have HW := Lib.hid (twith_none w hT)
  clear hT
  go_enter Tryz.func86, Tryz.ntmps86
  go_wp2_with fail
  refine HW.out.mono ?_
  rintro e w1 ⟨rfl, hb1⟩
  have HB1 := Lib.hid hb1
  clear hb1
  go_wp2_with fail
  go_ret2
  exact ⟨rfl, HB1.out⟩
set_option maxRecDepth 100000 in
set_option maxHeartbeats 4000000 in
theorem none21_any (w : World) (hT : Sizes w) : Calls Tryz.prog 40 #[] w fun e w' => e = .returned (.bool true) ∧ Below w.heap.size w w' := by
  have HE := Lib.hid (tencode_none w hT)
  clear hT
  go_enter Tryz.func40, Tryz.ntmps40
  go_wp2_with fail
  refine HE.out.mono ?_
  rintro e w1 ⟨rfl, hb1⟩
  have HB1 := Lib.hid hb1
  clear hb1
  go_wp2_with fail
  refine (tmost_five _).mono ?_
  rintro e w2 ⟨rfl, hb2⟩
  have HB2 := Lib.hid (HB1.out.trans (hb2.mono HB1.out.size))
  clear hb2
  go_wp2_with fail
  refine (tmost_four _).mono ?_
  rintro e w3 ⟨rfl, rfl⟩
  go_wp2_with fail
  go_ret
  exact ⟨rfl, HB2.out⟩
set_option maxHeartbeats 1000000 in
theorem topen_nil (w : World) : Calls Tryz.prog 91 #[.pointer none] w fun e w' => e = .returned (.bool false) ∧ w' = w := by
  go_enter Tryz.func91, Tryz.ntmps91
  go_wp2_with fail
  go_ret
  exact ⟨rfl, rfl⟩
set_option maxHeartbeats 1000000 in
theorem twrite_nil (x f : Value) (w : World) : Calls Tryz.prog 88 #[.pointer none, x, f] w fun e w' => e = .returned (.int .i64 7) ∧ w' = w := by
  go_enter Tryz.func88, Tryz.ntmps88
  go_wp2_with fail
  refine (topen_nil _).mono ?_
  rintro e w1 ⟨rfl, rfl⟩
  go_wp2_with fail
  go_ret
  exact ⟨rfl, rfl⟩
set_option maxHeartbeats 1000000 in
theorem tblock_nil (s : ByteArray) (x : Int) (w : World) : Calls Tryz.prog 41 #[.pointer none, .string s, .int .u32 x] w fun e w' => e = .returned (.int .i64 7) ∧ Below w.heap.size w w' := by
  have HB0 : Hid (Below w.heap.size w ((w.alloc (.cells #[.string s] 9)).alloc (.cells #[.int .u32 x] 22))) := Lib.hid (((Below.refl w.heap.size w).alloc (Nat.le_refl _) _).alloc (by simp) _)
  go_enter Tryz.func41, Tryz.ntmps41
  go_wp2_with fail
  refine (twrite_nil _ _ _).mono ?_
  rintro e w1 ⟨rfl, rfl⟩
  go_wp2_with fail
  go_ret
  exact ⟨rfl, HB0.out⟩
set_option maxHeartbeats 1000000 in
theorem tturned_nil (s : ByteArray) (n x : Int) (w : World) : Calls Tryz.prog 42 #[.pointer none, .string s, .int .i64 n, .int .u32 x] w fun e w' => e = .returned (.int .i64 7) ∧ Below w.heap.size w w' := by
  have HB0 : Hid (Below w.heap.size w (((w.alloc (.cells #[.string s] 9)).alloc (.cells #[.int .i64 n] 3)).alloc (.cells #[.int .u32 x] 22))) := Lib.hid ((((Below.refl w.heap.size w).alloc (Nat.le_refl _) _).alloc (by simp) _).alloc (by simp; omega) _)
  go_enter Tryz.func42, Tryz.ntmps42
  go_wp2_with fail
  refine (twrite_nil _ _ _).mono ?_
  rintro e w1 ⟨rfl, rfl⟩
  go_wp2_with fail
  go_ret
  exact ⟨rfl, HB0.out⟩
set_option maxHeartbeats 1000000 in
theorem tend_nil (w : World) : Calls Tryz.prog 43 #[.pointer none] w fun e w' => e = .returned (.int .i64 7) ∧ w' = w := by
  go_enter Tryz.func43, Tryz.ntmps43
  go_wp2_with fail
  refine (topen_nil _).mono ?_
  rintro e w1 ⟨rfl, rfl⟩
  go_wp2_with fail
  go_ret
  exact ⟨rfl, rfl⟩
set_option maxHeartbeats 1000000 in
theorem ttake_nil (w : World) : Calls Tryz.prog 44 #[.pointer none] w fun e w' => e = .returned (.string ⟨#[]⟩) ∧ w' = w := by
  go_enter Tryz.func44, Tryz.ntmps44
  go_wp2_with fail
  go_ret
  exact ⟨rfl, rfl⟩
set_option maxHeartbeats 1000000 in
theorem theld_nil (w : World) : Calls Tryz.prog 45 #[.pointer none] w fun e w' => e = .returned (.int .i64 0) ∧ w' = w := by
  go_enter Tryz.func45, Tryz.ntmps45
  go_wp2_with fail
  go_ret
  exact ⟨rfl, rfl⟩
set_option maxRecDepth 100000 in
set_option maxHeartbeats 8000000 in
theorem streamNil.walk (s : ByteArray) (n x : Int) (w : World) (hT : Sizes w) (hs : s.size ≤ maxLen) (hn : (Lit.int .i64 n).wf = true) (hx : (Lit.int .u32 x).wf = true) :
    Calls Tryz.prog 10 #[.string s, .int .i64 n, .int .u32 x] w fun e w' => e = .returned (.bool true) ∧ Below w.heap.size w w' := by
  have HSZ := Lib.hid hT
  have HNO := Lib.hid (fun W (h : Sizes W) => none21_any W h)
  unfold maxLen at hs
  clear hT hn hx
  by_cases h60 : 60 < s.size
  · have h60i : (60 : Int) < (s.size : Int) := by omega
    go_enter Tryz.func10, Tryz.ntmps10
    go_wp2_with fail
    refine (HNO.out _ HSZ.out).mono ?_
    rintro e w1 ⟨rfl, hb1⟩
    have HB1 := Lib.hid hb1
    clear hb1
    go_wp2_with fail
    go_ret
    exact ⟨rfl, HB1.out⟩
  · have h60i : ¬ (60 : Int) < (s.size : Int) := by omega
    clear h60
    go_enter Tryz.func10, Tryz.ntmps10
    go_wp2_with fail
    refine (tblock_nil _ _ _).mono ?_
    rintro e w1 ⟨rfl, hb1⟩
    have HB1 := Lib.hid hb1
    clear hb1
    go_wp2_with fail
    refine (tturned_nil _ _ _ _).mono ?_
    rintro e w2 ⟨rfl, hb2⟩
    have HB2 := Lib.hid (HB1.out.trans (hb2.mono HB1.out.size))
    clear hb2
    go_wp2_with fail
    refine (tend_nil _).mono ?_
    rintro e w3 ⟨rfl, rfl⟩
    go_wp2_with fail
    refine (ttake_nil _).mono ?_
    rintro e w4 ⟨rfl, rfl⟩
    go_wp2_with fail
    refine (theld_nil _).mono ?_
    rintro e w5 ⟨rfl, rfl⟩
    go_wp2_with fail
    refine (HNO.out _ (HSZ.out.below HB2.out HSZ.out.lt)).mono ?_
    rintro e w6 ⟨rfl, hb6⟩
    have HB6 := Lib.hid (HB2.out.trans (hb6.mono HB2.out.size))
    clear hb6
    go_wp2_with fail
    go_ret
    exact ⟨rfl, HB6.out⟩
open Go.ChangeShapes Go.WideShapes in
theorem sizes_of_laid2 {W : World} (h : laidMetH Tryz.prog [("baler/tables.bounds", Rows.laid_baler_tables_bounds), ("baler/rle.sizes", Rows.laid_baler_rle_sizes)] W) : Sizes W :=
  sizes_of_laid (laidMetH.filter (fun x => x.1 == "baler/rle.sizes") h)
end Go.Proofs.YtnachbjhhpnadaaGreatDoor

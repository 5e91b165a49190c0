/-
  THE WALKS OF LAYER 16's CODE (package sorter): some steps.
-/
import Derived.Test.YtfedhppcmmponaaSrtI
namespace Go.Proofs.Ytfedhppcmmponaa
open Go.RowKit BwtM SrtM PkM
set_option linter.unusedVariables false
set_option linter.unusedSimpArgs false
section
variable {B : Nat} {b bo bc ba n : Nat} {vk vw : Value} {kb Z : List Nat} {S : SS}
/-- Each part costs a step. -/
theorem costs_ge {T : List UInt8} {ps : List Part} (h : ∀ q ∈ ps, Fits T.length q) : ps.length ≤ costs ps := by
  induction ps with
  | nil => exact Nat.zero_le _
  | cons p ps ih =>
    have h1 := ih (fun q hq => h q (List.mem_cons_of_mem _ hq))
    have h2 : 1 ≤ p.cost := by
      obtain ⟨f1, f2, f3⟩ := h p (List.mem_cons_self ..)
      unfold Part.cost
      split
      · rename_i hb
        have := f3 hb
        omega
      · exact passS_pos _
    unfold costs at h1 ⊢
    rw [List.map_cons, List.sum_cons, List.length_cons]
    omega
theorem srt_depth {T : List UInt8} {K : Nat → Nat} {ps : List Part} {p : Part} {A : List Nat} {m R : Nat} (h : Srt T K S ps p A m R) : ps.length ≤ R + 3 * T.length := by
  have hl := h.left
  rw [costs_app] at hl
  have h1 := costs_ge (fun q hq => h.fits q (List.mem_append_left _ hq))
  have hf := h.fit
  rcases h.top with ⟨_, e1, e2, e3, _⟩ | ⟨hb, _⟩
  · omega
  · have hbd := h.bounds hb
    have hla := (h.on hb).2.1
    omega
/-- A part is done: what is due then. -/
theorem due_pop {T : List UInt8} {K : Nat → Nat} {ps : List Part} {A : List Nat} {m R : Nat} (hT : T.length = n) (h0 : 0 < n) (hz : S.laid = 0 ∧ S.first = 0 ∧ S.second = 0) (hm : S.made = 0) (h : (∃ ps2 q, ps = ps2 ++ [q] ∧ Srt T K S ps2 q A m R) ∨ (ps = [] ∧ Num T K S m R)) : Due T K S n R := by
  rcases h with ⟨ps2, q, _, h⟩ | ⟨_, h⟩
  · refine Or.inl ⟨ps2, q, A, m, h, fun hb => ?_⟩
    have := (h.fits q (by simp)).2.2 hb
    omega
  · exact Or.inr ⟨m, h, by omega⟩
set_option maxRecDepth 100000 in
set_option maxHeartbeats 4000000 in
theorem ssome_num (T : List UInt8) (K : Nat → Nat) (w : World) (m R k : Nat) (h : IsSo B w b bo bc ba vk vw n (kb ++ Z) S) (hK : KeyH T (bytesBy S.reach) K) (hkey : KeyV w vk kb bc n S.cls K) (hKb : ∀ i, i < n → K i ≤ 1000000000000) (hN : Num T K S m R) (hmd : S.made < n) (hT : T.length = n) (h0 : 0 < n) (hn : n ≤ 900000) (hrc : S.reach ≤ 2 * n) (hkz : ∀ g ∈ kb, g ∉ Z)
    (hk1 : 1 ≤ k) (hk : k ≤ 9223372036854775807) (hb : B ≤ w.heap.size) :
    Calls Try.prog 49 #[.pointer (some ⟨b, 0, none⟩), .int .i64 (k : Int)] w fun e w' => SomeP B w w' b n T Z S.steps R k e := by
  have hw := h.wt
  rw [hN.stk] at hw
  obtain ⟨wa, wc, hwe⟩ := hw.slice
  have hwe : vw = .slice wa 0 wc := hwe
  subst hwe
  have HC := Lib.hid (snumber_any T K w m R k h hK hkey hKb hN hmd hT h0 hn hrc hkz hk1 hk hb)
  obtain ⟨_, _, _, _, _, d5, _⟩ := h.obj.cells
  clear h hK hkey hN hw hrc hT hmd
  go_enter Try.func49, Try.ntmps49
  go_wp2_with fail
  refine HC.out.mono ?_
  rintro e w5 ⟨g, rfl, hg, hs, hB, hZ⟩
  have HR : Hid (SomeP B w w5 b n T Z S.steps R k (.returned (.int .i64 (g : Int)))) := Lib.hid ⟨g, rfl, hg, hs, hB, hZ⟩
  clear hg hs hB hZ
  go_wp2_with fail
  go_ret
  exact HR.out
/-- Steps that were gone, and what is due then. -/
theorem some_pack {T : List UInt8} {K : Nat → Nat} {w w1 w' : World} {R k g : Nat} {vw' : Value} {S' : SS} (hkz : ∀ g ∈ kb, g ∉ Z) (hK : KeyH T (bytesBy S.reach) K) (hkey : KeyV w1 vk kb bc n S.cls K) (hKb : ∀ i, i < n → K i ≤ 1000000000000) (hrc : S.reach ≤ 2 * n) (hI : IsSo B w' b bo bc ba vk vw' n (kb ++ Z) S')
    (h1 : S'.steps = S.steps) (h2 : S'.reach = S.reach) (h3 : S'.cls = S.cls) (hd : Due T K S' n (R - g)) (hg : 1 ≤ g ∧ g ≤ k ∧ g ≤ R) (hB : Below B w w') (hkb : KbSame w w' (kb ++ Z)) (hkb1 : KbSame w1 w' (kb ++ Z)) : SomeP B w w' b n T Z S.steps R k (.returned (.int .i64 (g : Int))) :=
  ⟨g, rfl, hg, ⟨bo, bc, ba, vk, vw', kb, S', hI, ⟨h1, by rw [h2]; exact hrc, hkz⟩, Or.inr ⟨K, by rw [h2]; exact hK, by rw [h3]; exact hkey.same (fun g hg => hkb1 g (List.mem_append_left _ hg)), hKb, hd⟩⟩, hB, hkb.part⟩
theorem lay_asd {A O : List Nat} {a lo g : Nat} (ha : a + g ≤ A.length) (ho : lo + a + g ≤ O.length) :
    (∀ i, i < a → (A.take a ++ (O.drop (lo + a)).take g ++ A.drop (a + g)).getD i 0 = A.getD i 0) ∧ ∀ i, a ≤ i → i < a + g → (A.take a ++ (O.drop (lo + a)).take g ++ A.drop (a + g)).getD i 0 = O.getD (lo + i) 0 := by
  have l1 : (A.take a).length = a := by rw [List.length_take]; omega
  have l2 : ((O.drop (lo + a)).take g).length = g := by rw [List.length_take, List.length_drop]; omega
  constructor
  · intro i hi
    rw [List.append_assoc, List.getD_eq_getElem?_getD, List.getElem?_append_left (by omega), List.getElem?_take_of_lt hi, List.getD_eq_getElem?_getD]
  · intro i h1 h2
    rw [List.append_assoc, getD_app_right (by omega), l1, List.getD_eq_getElem?_getD, List.getElem?_append_left (by omega), List.getElem?_take_of_lt (by omega), List.getElem?_drop, List.getD_eq_getElem?_getD]
    congr 2
    omega
set_option maxRecDepth 100000 in
set_option maxHeartbeats 8000000 in
theorem ssome_srt (T : List UInt8) (K : Nat → Nat) (w : World) (ps : List Part) (p : Part) (A : List Nat) (m R k : Nat) (h : IsSo B w b bo bc ba vk vw n (kb ++ Z) S) (hK : KeyH T (bytesBy S.reach) K) (hkey : KeyV w vk kb bc n S.cls K) (hKb : ∀ i, i < n → K i ≤ 1000000000000) (hS : Srt T K S ps p A m R) (hsz : p.begun = true → S.first + S.second < p.hi - p.lo) (hT : T.length = n) (h0 : 0 < n) (hn : n ≤ 20000) (hrc : S.reach ≤ 2 * n) (hkz : ∀ g ∈ kb, g ∉ Z) (hR : R ≤ 800000)
    (hk1 : 1 ≤ k) (hk : k ≤ 9223372036854775807) (hb : B ≤ w.heap.size) :
    Calls Try.prog 49 #[.pointer (some ⟨b, 0, none⟩), .int .i64 (k : Int)] w fun e w' => SomeP B w w' b n T Z S.steps R k e := by
  have hdep := srt_depth hS
  have hfit := hS.fit
  rw [hT] at hdep hfit
  obtain ⟨f1, f2, f3, f4, f5⟩ := hfit
  have H0 := Lib.hid h
  have HS := Lib.hid hS
  have HKV := Lib.hid hkey
  have HK := Lib.hid hK
  have HSTK := Lib.hid hS.stk
  have HSZ := Lib.hid hsz
  have HHT := Lib.hid hT
  have hw := h.wt
  rw [hS.stk] at hw
  obtain ⟨g, cap, rfl, hBg, hgl, hcap, c0, c1, c2, fz2⟩ := hw.top
  obtain ⟨L, hL⟩ : ∃ L, ps.length = L := ⟨_, rfl⟩
  rw [hL] at hcap c0 c1 c2 fz2 hdep H0
  have HL := Lib.hid hL
  have hix := fun W => pindex_last g L cap (by omega) W
  have hLi2 : ((L : Int) + 1) - 1 = (L : Int) := by omega
  have hLw : IntKind.i64.wrap (L : Int) = (L : Int) := IntWalk.i64_in _ (by omega)
  have hLw2 : IntKind.i64.wrap ((L : Int) + 1 - 1) = (L : Int) := by rw [hLi2]; exact hLw
  obtain ⟨_, _, _, _, _, d5, _⟩ := H0.out.obj.cells
  have hL0 : (((L + 1 : Nat) : Int) == 0) = false := by rw [beq_eq_false_iff_ne]; omega
  have hL0' : ((L : Int) + 1 == 0) = false := by rw [beq_eq_false_iff_ne]; omega
  have HRC := Lib.hid hrc
  have HKZ := Lib.hid hkz
  have HKB := Lib.hid hKb
  have HHB := Lib.hid hb
  have HRR := Lib.hid hR
  have HBS := Lib.hid h.base.1
  have hfi := hS.fits p (by simp)
  rw [hT] at hfi
  have HFI := Lib.hid hfi
  clear h hK hkey hS hw hrc hT hL hKb hfi hkz
  go_enter Try.func49, Try.ntmps49
  go_wp2_with fail
  have hgl2 : g < w.drew.heap.size := hgl
  have hgb5 : b < w.drew.heap.size := H0.out.obj.lt
  have hSS : (fun W : World => W.cell? ⟨b, 5, none⟩ = some (.slice (some ⟨g, 0, none⟩) (L + 1) cap) ∧ W.cell? ⟨g, L * 3, none⟩ = some (.int .i64 (p.lo : Int)) ∧ W.cell? ⟨g, L * 3 + 1, none⟩ = some (.int .i64 (p.hi : Int)) ∧ W.cell? ⟨g, L * 3 + 2, none⟩ = some (.bool p.begun)) w.drew := ⟨d5, c0, c1, c2⟩
  have hSX : (fun W : World => W.cell? ⟨b, 5, none⟩ = some (.slice (some ⟨g, 0, none⟩) (L + 1) cap) ∧ W.cell? ⟨g, L * 3, none⟩ = some (.int .i64 (p.lo : Int)) ∧ W.cell? ⟨g, L * 3 + 1, none⟩ = some (.int .i64 (p.hi : Int)) ∧ W.cell? ⟨g, L * 3 + 2, none⟩ = some (.bool p.begun)) (w.drew.alloc (.cells #[.int .i64 0, .int .i64 0, .bool false] 72)) :=
    ⟨(World.cell?_alloc_some w.drew _ _ (by rw [hSS.1]; rfl)).trans hSS.1, (World.cell?_alloc_some w.drew _ _ (by rw [hSS.2.1]; rfl)).trans hSS.2.1, (World.cell?_alloc_some w.drew _ _ (by rw [hSS.2.2.1]; rfl)).trans hSS.2.2.1, (World.cell?_alloc_some w.drew _ _ (by rw [hSS.2.2.2]; rfl)).trans hSS.2.2.2⟩
  refine wp_region_K 13 (fun W : World => W.cell? ⟨b, 5, none⟩ = some (.slice (some ⟨g, 0, none⟩) (L + 1) cap) ∧ W.cell? ⟨g, L * 3, none⟩ = some (.int .i64 (p.lo : Int)) ∧ W.cell? ⟨g, L * 3 + 1, none⟩ = some (.int .i64 (p.hi : Int)) ∧ W.cell? ⟨g, L * 3 + 2, none⟩ = some (.bool p.begun)) (by kernel_rfl) ?_
  refine wpAnyK_take (i := 0) rfl (by kernel_rfl) (by kernel_rfl) (by kernel_rfl) (by kernel_rfl) (fun _ _ _ h => h) (v := ?_) (Or.inl ⟨by rfl, ?_⟩) hSS ?_
  rotate_left
  · rintro W ⟨k5, kp0, kp1, kp2⟩
    go_simp
    try with_reducible rfl
  try simp only [Act.put, List.setIfInBounds_toArray, List.set_cons_zero, List.set_cons_succ]
  refine wpAnyK_take (i := 1) rfl (by kernel_rfl) (by kernel_rfl) (by kernel_rfl) (by kernel_rfl) (fun _ _ _ h => h) (v := ?_) (Or.inl ⟨by rfl, ?_⟩) hSS ?_
  rotate_left
  · rintro W ⟨k5, kp0, kp1, kp2⟩
    go_simp
    try with_reducible rfl
  try simp only [Act.put, List.setIfInBounds_toArray, List.set_cons_zero, List.set_cons_succ]
  refine wpAnyK_take (i := 2) rfl (by kernel_rfl) (by kernel_rfl) (by kernel_rfl) (by kernel_rfl) (fun _ _ _ h => h) (v := ?_) (Or.inl ⟨by rfl, ?_⟩) hSS ?_
  rotate_left
  · rintro W ⟨k5, kp0, kp1, kp2⟩
    go_simp
    try with_reducible rfl
  try simp only [Act.put, List.setIfInBounds_toArray, List.set_cons_zero, List.set_cons_succ]
  refine wpAnyK_take (i := 3) rfl (by kernel_rfl) (by kernel_rfl) (by kernel_rfl) (by kernel_rfl) (fun _ _ _ h => h) (v := ?_) (Or.inl ⟨by rfl, ?_⟩) hSS ?_
  rotate_left
  · rintro W ⟨k5, kp0, kp1, kp2⟩
    go_simp
    try with_reducible rfl
  try simp only [Act.put, List.setIfInBounds_toArray, List.set_cons_zero, List.set_cons_succ]
  refine wpAnyK_take (i := 4) rfl (by kernel_rfl) (by kernel_rfl) (by kernel_rfl) (by kernel_rfl) (fun _ _ _ h => h) (v := ?_) (Or.inl ⟨by rfl, ?_⟩) hSS ?_
  rotate_left
  · rintro W ⟨k5, kp0, kp1, kp2⟩
    go_simp
    try with_reducible rfl
  try simp only [Act.put, List.setIfInBounds_toArray, List.set_cons_zero, List.set_cons_succ]
  refine wpAnyK_take (i := 5) rfl (by kernel_rfl) (by kernel_rfl) (by kernel_rfl) (by kernel_rfl) (fun _ _ _ h => h) (v := ?_) (Or.inl ⟨by rfl, ?_⟩) hSS ?_
  rotate_left
  · rintro W ⟨k5, kp0, kp1, kp2⟩
    go_simp
    try with_reducible rfl
  try simp only [Act.put, List.setIfInBounds_toArray, List.set_cons_zero, List.set_cons_succ]
  refine wpAnyK_take (i := 6) rfl (by kernel_rfl) (by kernel_rfl) (by kernel_rfl) (by kernel_rfl) (fun _ _ _ h => h) (v := ?_) (Or.inl ⟨by rfl, ?_⟩) hSS ?_
  rotate_left
  · rintro W ⟨k5, kp0, kp1, kp2⟩
    go_simp
    try with_reducible rfl
  try simp only [Act.put, List.setIfInBounds_toArray, List.set_cons_zero, List.set_cons_succ]
  refine wpAnyK_take (i := 7) rfl (by kernel_rfl) (by kernel_rfl) (by kernel_rfl) (by kernel_rfl) (fun _ _ _ h => h) (v := ?_) (Or.inl ⟨by rfl, ?_⟩) hSS ?_
  rotate_left
  · rintro W ⟨k5, kp0, kp1, kp2⟩
    go_simp
    try with_reducible rfl
  try simp only [Act.put, List.setIfInBounds_toArray, List.set_cons_zero, List.set_cons_succ]
  refine wpAnyK_take (i := 8) rfl (by kernel_rfl) (by kernel_rfl) (by kernel_rfl) (by kernel_rfl) (fun _ _ _ h => h) (v := ?_) (Or.inl ⟨by rfl, ?_⟩) hSS ?_
  rotate_left
  · rintro W ⟨k5, kp0, kp1, kp2⟩
    go_simp
    try with_reducible rfl
  try simp only [Act.put, List.setIfInBounds_toArray, List.set_cons_zero, List.set_cons_succ]
  refine wpAnyK_take (i := 9) rfl (by kernel_rfl) (by kernel_rfl) (by kernel_rfl) (by kernel_rfl) (fun _ _ _ h => h) (v := ?_) (Or.inl ⟨by rfl, ?_⟩) hSS ?_
  rotate_left
  · rintro W ⟨k5, kp0, kp1, kp2⟩
    go_simp
    try with_reducible rfl
  try simp only [Act.put, List.setIfInBounds_toArray, List.set_cons_zero, List.set_cons_succ]
  refine wpAnyK_take (i := 10) rfl (by kernel_rfl) (by kernel_rfl) (by kernel_rfl) (by kernel_rfl) (fun _ _ _ h => h) (v := ?_) (Or.inl ⟨by rfl, ?_⟩) hSS ?_
  rotate_left
  · rintro W ⟨k5, kp0, kp1, kp2⟩
    go_simp
    try with_reducible rfl
  try simp only [Act.put, List.setIfInBounds_toArray, List.set_cons_zero, List.set_cons_succ]
  refine wpAnyK_take (i := 11) rfl (by kernel_rfl) (by kernel_rfl) (by kernel_rfl) (by kernel_rfl) (fun _ _ _ h => h) (v := ?_) (Or.inl ⟨by rfl, ?_⟩) hSS ?_
  rotate_left
  · rintro W ⟨k5, kp0, kp1, kp2⟩
    go_simp
    try with_reducible rfl
  try simp only [Act.put, List.setIfInBounds_toArray, List.set_cons_zero, List.set_cons_succ]
  refine wpAnyK_ready (rs := [12]) (by kernel_rfl) (by simp) ?_
  intro i hi
  simp only [List.mem_cons, List.not_mem_nil, or_false] at hi
  subst hi
  refine wpOp_in rfl ?_
  intro KC hKC
  go_simp
  refine hKC _ _ ⟨fun _ => hSX, ?_⟩
  try simp only [Act.put, List.setIfInBounds_toArray, List.set_cons_zero, List.set_cons_succ]
  clear hKC
  refine wpAnyK_ready (rs := [13]) (by kernel_rfl) (by simp) ?_
  intro i hi
  simp only [List.mem_cons, List.not_mem_nil, or_false] at hi
  subst hi
  refine wpOp_in rfl ?_
  intro KC hKC
  rw [if_pos (by rfl)]
  refine wp_store_row 72 _ _ rfl w.heap.size #[.int .i64 (p.lo : Int), .int .i64 (p.hi : Int), .bool p.begun] (by rfl) (by rfl) 72 #[.int .i64 0, .int .i64 0, .bool false] (heap_alloc_new w.drew _) pinfo rfl (by kernel_rfl) ?_
  refine hKC _ _ ⟨fun h => absurd rfl h, ?_⟩
  refine wpAnyK_done (by kernel_rfl) ?_ _
  try simp only [Act.put, List.setIfInBounds_toArray, List.set_cons_zero, List.set_cons_succ]
  have hS0 : (w.alloc (.cells #[.int .i64 0, .int .i64 0, .bool false] 72)).drew.heap.size = w.heap.size + 1 := by simp
  have HG1 : Hid (((w.alloc (.cells #[.int .i64 0, .int .i64 0, .bool false] 72)).drew.setRow w.heap.size #[.int .i64 (p.lo : Int), .int .i64 (p.hi : Int), .bool p.begun]).heap[w.heap.size]? = some (.cells #[.int .i64 (p.lo : Int), .int .i64 (p.hi : Int), .bool p.begun] 72 (0, 0))) := Lib.hid (setRow_heap _ _ _ _ _ _ (heap_alloc_new w.drew _))
  have HB1 : Hid (Below w.heap.size w ((w.alloc (.cells #[.int .i64 0, .int .i64 0, .bool false] 72)).drew.setRow w.heap.size #[.int .i64 (p.lo : Int), .int .i64 (p.hi : Int), .bool p.begun])) := Lib.hid (
    ⟨rfl, rfl, rfl, by rw [setRow_size, hS0]; omega, fun k hk => (setRow_other _ _ k _ (by omega)).trans (alloc_old (w := w.drew) hk)⟩)
  have HS1 : Hid (w.heap.size < ((w.alloc (.cells #[.int .i64 0, .int .i64 0, .bool false] 72)).drew.setRow w.heap.size #[.int .i64 (p.lo : Int), .int .i64 (p.hi : Int), .bool p.begun]).heap.size) := Lib.hid (by rw [setRow_size, hS0]; omega)
  clear hS0 hSX hSS hKC
  generalize (w.alloc (.cells #[.int .i64 0, .int .i64 0, .bool false] 72)).drew.setRow w.heap.size #[.int .i64 (p.lo : Int), .int .i64 (p.hi : Int), .bool p.begun] = w1 at *
  obtain ⟨pb, hpb⟩ : ∃ pb, w.heap.size = pb := ⟨_, rfl⟩
  have HPB := Lib.hid hpb
  rw [hpb] at HG1 HS1 ⊢
  clear hpb
  have H1 := Lib.hid (H0.out.below HB1.out)
  have hbw1 : B ≤ w1.heap.size := Nat.le_trans hb HB1.out.size
  have HBB1 : Hid (Below B w w1) := Lib.hid (HB1.out.mono hb)
  have HK1 : Hid (KbSame w w1 (kb ++ Z)) := Lib.hid (fun x hx => HB1.out.block x (H0.out.kap x hx).1)
  have HKV1 := Lib.hid (HKV.out.same (fun g hg => HK1.out g (List.mem_append_left _ hg)))
  clear d5 c0 c1 c2 fz2 hgl2 hgb5
  obtain ⟨bg, hbg⟩ : ∃ bg, p.begun = bg := ⟨_, rfl⟩
  rw [hbg] at HG1 ⊢
  have g0 : w1.cell? ⟨pb, 0, none⟩ = some (.int .i64 (p.lo : Int)) := by rw [cell_of_row _ _ 0 _ _ _ HG1.out]; rfl
  have g1 : w1.cell? ⟨pb, 1, none⟩ = some (.int .i64 (p.hi : Int)) := by rw [cell_of_row _ _ 1 _ _ _ HG1.out]; rfl
  have g2 : w1.cell? ⟨pb, 2, none⟩ = some (.bool bg) := by rw [cell_of_row _ _ 2 _ _ _ HG1.out]; rfl
  have hu := Try.underlying72
  have hpi := pinfo
  have HBG := Lib.hid hbg
  have hg := HG1.out
  cases bg with
  | false =>
    by_cases hsm : p.hi - p.lo < 2
    · have HC := Lib.hid (sbegin_small w1 ps p H1.out HSTK.out (by have := HL.out; omega) (by have := HFI.out; omega) (by omega) hsm hbw1)
      rw [hbg] at HC
      have HM := Lib.hid (HS.out.small hbg hsm (S' := popS S ps) rfl ⟨rfl, rfl, rfl⟩ rfl rfl rfl)
      clear hbg
      go_wp2_with (refine wpList_load_row rfl 72 _ rfl pb rfl 72 #[.int .i64 (p.lo : Int), .int .i64 (p.hi : Int), .bool false] (0, 0) _ hg hu rfl hpi ?_)
      refine HC.out.mono ?_
      rintro e w5 ⟨rfl, vw5, hI5, hB5, hK5⟩
      have HR : Hid (SomeP B w w5 b n T Z S.steps R k (.returned (.int .i64 ((1 : Nat) : Int)))) := Lib.hid (some_pack HKZ.out HK.out HKV.out HKB.out HRC.out hI5 rfl rfl rfl (due_pop HHT.out h0 ⟨rfl, rfl, rfl⟩ HS.out.made HM.out.2) ⟨Nat.le_refl _, hk1, HM.out.1⟩ (HBB1.out.trans hB5) (HK1.out.trans hK5) (HK1.out.trans hK5))
      clear hI5 hB5 hK5
      go_wp2_with fail
      go_ret
      exact HR.out
    · have HC := Lib.hid (sbegin_big w1 ps p H1.out HSTK.out (by have := HL.out; omega) (by have := HFI.out; omega) (by omega) (by omega) hbw1)
      rw [hbg] at HC
      have HM := Lib.hid (HS.out.halves hbg (by omega) (S' := halvesS S ps p) rfl ⟨rfl, rfl, rfl⟩ rfl rfl rfl)
      clear hbg
      go_wp2_with (refine wpList_load_row rfl 72 _ rfl pb rfl 72 #[.int .i64 (p.lo : Int), .int .i64 (p.hi : Int), .bool false] (0, 0) _ hg hu rfl hpi ?_)
      refine HC.out.mono ?_
      rintro e w5 ⟨rfl, vw5, hI5, hB5, hK5⟩
      have HR : Hid (SomeP B w w5 b n T Z S.steps R k (.returned (.int .i64 ((1 : Nat) : Int)))) := Lib.hid (some_pack HKZ.out HK.out HKV.out HKB.out HRC.out hI5 rfl rfl rfl (Or.inl ⟨_, _, A, m, HM.out.2, fun e => by cases e⟩) ⟨Nat.le_refl _, hk1, HM.out.1⟩ (HBB1.out.trans hB5) (HK1.out.trans hK5) (HK1.out.trans hK5))
      clear hI5 hB5 hK5
      go_wp2_with fail
      go_ret
      exact HR.out
  | true =>
    have hfi := HFI.out
    have hbig : p.lo + 2 ≤ p.hi := hfi.2.2 hbg
    obtain ⟨o1, o2, o3, o4, o5⟩ := HS.out.on hbg
    have HBD := Lib.hid (HS.out.bounds hbg)
    have hmn : p.mid < n := by omega
    obtain ⟨g1', hg1'⟩ : ∃ g1', g1' = min k (p.mid - p.lo - S.laid) := ⟨_, rfl⟩
    have HGE := Lib.hid hg1'
    have hgs : g1' ≤ k ∧ S.laid + g1' ≤ p.mid - p.lo ∧ (g1' < k → S.laid + g1' = p.mid - p.lo) := by omega
    have H1p : Hid (IsSo B w1 b bo bc ba vk (.slice (some ⟨g, 0, none⟩) (L + 1) cap) n ((kb ++ Z) ++ [pb]) S) := Lib.hid (H1.out.keyed _ (fun x hx => by
      rcases List.mem_append.1 hx with hx | hx
      · exact H1.out.kap x hx
      · rw [List.mem_singleton] at hx
        subst hx
        have l1 := H0.out.obj.lt
        have l2 := H0.out.ro.lt
        have l3 := H0.out.rc.lt
        have l4 := H0.out.ra.lt
        have e := HPB.out
        exact ⟨HS1.out, by omega, by omega, by omega, by omega, fun e2 => by have := (H0.out.wt.lt x e2).2; omega⟩))
    have HKVp := Lib.hid ((HKV1.out.more Z).more [pb])
    have HC := Lib.hid (slay_any w1 p k g1' H1p.out (by omega) hmn f3 (by omega) hk hg1' hbw1)
    have hasd := lay_asd (A := S.asd) (O := S.ord) (a := S.laid) (lo := p.lo) (g := g1') (by rw [H1.out.la]; omega) (by rw [H1.out.lo]; omega)
    have HM := Lib.hid (HS.out.lay hbg g1' hgs.2.1 (S' := layS S p.lo g1') rfl ⟨rfl, rfl, rfl⟩ rfl rfl rfl hasd.1 hasd.2)
    rw [hbg] at HC
    have hgk := hgs.1
    have HGS := Lib.hid hgs
    obtain ⟨k2, hk2⟩ : ∃ k2, k - g1' = k2 := ⟨_, rfl⟩
    have HK2 := Lib.hid hk2
    have hk2i : (k : Int) - (g1' : Int) = (k2 : Int) := by omega
    have hk2w : IntKind.i64.wrap (k2 : Int) = (k2 : Int) := IntWalk.i64_in _ (by omega)
    have HF := Lib.hid (And.intro f1 (And.intro f2 (And.intro f3 hbig)))
    have hszm : p.hi - p.lo ≤ 20000 := by omega
    clear hbg o1 o2 o3 o4 o5 hasd hgs hg1' hk2 hfi f1 f2 f3 f4 f5 hmn hbig
    go_wp2_with (refine wpList_load_row rfl 72 _ rfl pb rfl 72 #[.int .i64 (p.lo : Int), .int .i64 (p.hi : Int), .bool true] (0, 0) _ hg hu rfl hpi ?_)
    refine HC.out.mono ?_
    rintro e w2 ⟨rfl, hI2, hB2, hK2s⟩
    have H2 := Lib.hid hI2
    have HB2 := Lib.hid (HBB1.out.trans hB2)
    have HK2s := Lib.hid hK2s
    have HG2 : Hid (w2.heap[pb]? = some (.cells #[.int .i64 (p.lo : Int), .int .i64 (p.hi : Int), .bool true] 72 (0, 0))) := Lib.hid ((hK2s pb (by simp)).trans HG1.out)
    have HC2 := Lib.hid (sput_any T K w2 ps p A m (R - g1') k2 hI2 HM.out.2 HBG.out (fun h => by
      show S.laid + g1' = _
      have := HGS.out.2.2
      have := HK2.out
      omega) (HKVp.out.same hK2s) HKB.out HHT.out (by omega) (by omega) (Nat.le_trans hb (Nat.le_trans HB2.out.size (Nat.le_refl _))))
    obtain ⟨sz, hsz2⟩ : ∃ sz, p.hi - p.lo = sz := ⟨_, rfl⟩
    have HSZE := Lib.hid hsz2
    have hszm2 : sz ≤ 20000 := by omega
    obtain ⟨j, hj⟩ : ∃ j, min k2 (sz - (S.first + S.second)) = j := ⟨_, rfl⟩
    have HJ := Lib.hid hj
    rw [HBG.out, hsz2, show min k2 (sz - ((layS S p.lo g1').first + (layS S p.lo g1').second)) = j from hj] at HC2
    have hjsz : j ≤ sz := by omega
    obtain ⟨gt, hgt⟩ : ∃ gt, g1' + j = gt := ⟨_, rfl⟩
    have hgti : (g1' : Int) + (j : Int) = (gt : Int) := by omega
    have HGT := Lib.hid hgt
    have hgtw : IntKind.i64.wrap (gt : Int) = (gt : Int) := IntWalk.i64_in _ (by have := HFI.out; have := HGS.out; omega)
    have HSIZ := Lib.hid (fun W => psize_any p.lo p.hi true W (by have := HF.out; omega) (by have := HF.out; omega))
    rw [hsz2] at HSIZ
    clear hj hgt hsz2
    clear hI2 hB2 hK2s HC hg g0 g1 g2
    have hg := HG2.out
    go_wp2_with (refine wpList_load_row rfl 72 _ rfl pb rfl 72 #[.int .i64 (p.lo : Int), .int .i64 (p.hi : Int), .bool true] (0, 0) _ hg hu rfl hpi ?_)
    refine HC2.out.mono ?_
    rintro e w3 ⟨rfl, S3, hI3, hS3, hsm, hsum, hjR, hB3, hK3⟩
    have HI3 := Lib.hid hI3
    have HS3 := Lib.hid hS3
    have HSM := Lib.hid hsm
    have HB3 := Lib.hid (HB2.out.trans hB3)
    have HK3 := Lib.hid (HK2s.out.trans hK3)
    have HJR := Lib.hid hjR
    have HG3 : Hid (w3.heap[pb]? = some (.cells #[.int .i64 (p.lo : Int), .int .i64 (p.hi : Int), .bool true] 72 (0, 0))) := Lib.hid ((hK3 pb (by simp)).trans HG2.out)
    obtain ⟨fi, hfi⟩ : ∃ fi, S3.first = fi := ⟨_, rfl⟩
    obtain ⟨se, hse⟩ : ∃ se, S3.second = se := ⟨_, rfl⟩
    obtain ⟨_, _, _, _, _, _, _, d7, d8, _⟩ := hI3.obj.cells
    rw [hfi] at d7
    rw [hse] at d8
    have hbd := hS3.bounds HBG.out
    rw [hfi, hse] at hbd hsum
    obtain ⟨fs, hfs⟩ : ∃ fs, fi + se = fs := ⟨_, rfl⟩
    have hfsm : fi ≤ 20000 ∧ se ≤ 20000 := by have := HF.out; omega
    have hfsi : (fi : Int) + (se : Int) = (fs : Int) := by omega
    have hfsw : IntKind.i64.wrap (fs : Int) = (fs : Int) := IntWalk.i64_in _ (by omega)
    have HFS : Hid (S3.first + S3.second = fs) := Lib.hid (by rw [hfi, hse]; exact hfs)
    have HSUM : Hid (fs = S.first + S.second + j) := Lib.hid (by rw [← hfs]; exact hsum)
    have hpl : pb < w3.heap.size := (Array.getElem?_eq_some_iff.1 HG3.out).1
    have hGT1 : Hid (1 ≤ gt ∧ gt ≤ k ∧ gt ≤ R) := Lib.hid (by
      have a1 := HGT.out
      have a2 := HJ.out
      have a3 := HSZ.out HBG.out
      have a4 := HGS.out
      have a5 := HK2.out
      have a6 := HSZE.out
      have a7 := HM.out.1
      have a8 := HJR.out
      have a9 := HGE.out
      have a10 := HF.out
      have a11 := HBD.out
      have a12 := (HS.out.on HBG.out).2.1
      have a13 := (HS.out.on HBG.out).2.2.1
      omega)
    have q7 : ∀ sb : Beneath w3.heap.size w3, sb.val.cell? ⟨b, 7, none⟩ = some (.int .i64 (fi : Int)) := fun sb => Beneath.cell d7 HI3.out.obj.lt sb
    have q8 : ∀ sb : Beneath w3.heap.size w3, sb.val.cell? ⟨b, 8, none⟩ = some (.int .i64 (se : Int)) := fun sb => Beneath.cell d8 HI3.out.obj.lt sb
    have p0 : ∀ sb : Beneath w3.heap.size w3, sb.val.cell? ⟨pb, 0, none⟩ = some (.int .i64 (p.lo : Int)) := fun sb => Beneath.cell (by rw [cell_of_row _ _ 0 _ _ _ HG3.out]; rfl) hpl sb
    have p1 : ∀ sb : Beneath w3.heap.size w3, sb.val.cell? ⟨pb, 1, none⟩ = some (.int .i64 (p.hi : Int)) := fun sb => Beneath.cell (by rw [cell_of_row _ _ 1 _ _ _ HG3.out]; rfl) hpl sb
    have p2 : ∀ sb : Beneath w3.heap.size w3, sb.val.cell? ⟨pb, 2, none⟩ = some (.bool true) := fun sb => Beneath.cell (by rw [cell_of_row _ _ 2 _ _ _ HG3.out]; rfl) hpl sb
    clear hI3 hS3 hsm hsum hjR hB3 hK3 hfi hse d7 d8 hbd hfs HC2 hg
    by_cases hfe : fs = sz
    · have hE1 : ((fs : Int) == (sz : Int)) = true := by rw [beq_iff_eq]; omega
      go_wp2_with fail
      refine wp_region_beneath w3.heap.size w3 (Below.refl _ _) (by kernel_rfl) (by kernel_rfl) ?_
      repeat (go_big_quiet_step (first
        | (go_at_call 60; rename_i sb; exact Calls.beneath sb (Nat.le_refl _) (HSIZ.out _))))
      refine wpQuiet_nil ?_
      rintro _ ⟨sb, rfl⟩
      have HI4 := Lib.hid (HI3.out.below sb.is)
      have HB4 : Hid (Below B w sb.val) := Lib.hid (HB3.out.trans (sb.is.mono (Nat.le_trans hb HB3.out.size)))
      have HK4 : Hid (KbSame w1 sb.val (kb ++ Z ++ [pb])) := Lib.hid (HK3.out.trans (fun x hx => sb.is.block x (HI3.out.kap x hx).1))
      clear q7 q8 p0 p1 p2
      generalize sb.val = w4 at *
      go_wp2_with fail
      refine (ssorted_any w4 ps p HI4.out (by rw [HSM.out.ps]; exact HSTK.out) (by have := HL.out; omega)).mono ?_
      rintro e w5 ⟨rfl, vw5, hI5, hT5⟩
      have HR : Hid (SomeP B w w5 b n T Z S.steps R k (.returned (.int .i64 (gt : Int)))) := Lib.hid (by
        have hk5 : KbSame w4 w5 (kb ++ Z ++ [pb]) := fun x hx => hT5.block x (HI4.out.kap x hx).1 (HI4.out.kap x hx).2.1
        have hk6 := HK4.out.trans hk5
        have hk7 : KbSame w1 w5 (kb ++ Z) := fun x hx => hk6 x (List.mem_append_left _ hx)
        have hB5 : Below B w w5 := HB4.out.trans (hT5.below (Nat.le_trans hb HB4.out.size) (fun x hx => by have e : x = b := hx; have := HBS.out; omega))
        have hI6 := hI5.keyed (kb ++ Z) (fun x hx => hI5.kap x (List.mem_append_left _ hx))
        have hw := HS3.out.whole HBG.out (S' := popS S3 ps) (by rw [HFS.out, HSZE.out]; exact hfe) rfl ⟨rfl, rfl, rfl⟩ rfl rfl rfl
        have hdue : Due T K (popS S3 ps) n (R - gt) := by
          rw [show R - gt = R - g1' - j by have := HGT.out; omega]
          exact due_pop HHT.out h0 ⟨rfl, rfl, rfl⟩ (by show S3.made = 0; rw [HSM.out.made]; exact HS.out.made) hw
        exact some_pack HKZ.out HK.out HKV1.out HKB.out HRC.out hI6 (by show S3.steps = _; rw [HSM.out.steps]; rfl) (by show S3.reach = _; rw [HSM.out.reach]; rfl) (by show S3.cls = _; rw [HSM.out.cls]; rfl) hdue hGT1.out hB5 (HK1.out.trans hk7) hk7)
      clear hI5 hT5
      go_wp2_with fail
      go_ret
      exact HR.out
    · have hE1 : ((fs : Int) == (sz : Int)) = false := by rw [beq_eq_false_iff_ne]; omega
      go_wp2_with fail
      refine wp_region_beneath w3.heap.size w3 (Below.refl _ _) (by kernel_rfl) (by kernel_rfl) ?_
      repeat (go_big_quiet_step (first
        | (go_at_call 60; rename_i sb; exact Calls.beneath sb (Nat.le_refl _) (HSIZ.out _))))
      refine wpQuiet_nil ?_
      rintro _ ⟨sb, rfl⟩
      have HR : Hid (SomeP B w sb.val b n T Z S.steps R k (.returned (.int .i64 (gt : Int)))) := Lib.hid (by
        have hk6 : KbSame w1 sb.val (kb ++ Z ++ [pb]) := HK3.out.trans (fun x hx => sb.is.block x (HI3.out.kap x hx).1)
        have hk7 : KbSame w1 sb.val (kb ++ Z) := fun x hx => hk6 x (List.mem_append_left _ hx)
        have hB5 : Below B w sb.val := HB3.out.trans (sb.is.mono (Nat.le_trans hb HB3.out.size))
        have hI5 := HI3.out.below sb.is
        have hI6 := hI5.keyed (kb ++ Z) (fun x hx => hI5.kap x (List.mem_append_left _ hx))
        have hs := HS3.out
        refine some_pack HKZ.out HK.out HKV1.out HKB.out HRC.out hI6 (by rw [HSM.out.steps]; rfl) (by rw [HSM.out.reach]; rfl) (by rw [HSM.out.cls]; rfl) (Or.inl ⟨ps, p, A, m, by rw [← HGT.out, show R - (g1' + j) = R - g1' - j by omega]; exact hs, fun _ => ?_⟩) hGT1.out hB5 (HK1.out.trans hk7) hk7
        have a1 := hs.bounds HBG.out
        have a2 := HF.out
        have a3 := hs.fit
        have a4 := HFS.out
        have a5 := HSZE.out
        omega)
      clear q7 q8 p0 p1 p2
      generalize sb.val = w4 at *
      go_wp2_with fail
      go_ret
      exact HR.out
end
end Go.Proofs.Ytfedhppcmmponaa

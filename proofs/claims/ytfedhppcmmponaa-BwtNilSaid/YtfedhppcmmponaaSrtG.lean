/-
  THE WALKS OF LAYER 16's CODE (package sorter): a pass is ended.
-/
import Derived.Test.YtfedhppcmmponaaSrtF
namespace Go.Proofs.Ytfedhppcmmponaa
open Go.RowKit BwtM SrtM PkM
set_option linter.unusedVariables false
set_option linter.unusedSimpArgs false
/-- A pass sorts, or makes classes. -/
def Due (T : List UInt8) (K : Nat → Nat) (S : SS) (n R : Nat) : Prop :=
  (∃ ps p A m, Srt T K S ps p A m R ∧ (p.begun = true → S.first + S.second < p.hi - p.lo)) ∨ ∃ m, Num T K S m R ∧ S.made < n
theorem Due.pos {T : List UInt8} {K : Nat → Nat} {S : SS} {n R : Nat} (h : Due T K S n R) (hT : T.length = n) (h0 : 0 < n) : 0 < R := by
  rcases h with ⟨ps, p, A, m, h, hp⟩ | ⟨m, h, hm⟩
  · have hl := h.left
    rw [costs_app] at hl
    have hf := h.fit
    rcases h.top with ⟨_, e1, e2, e3, _⟩ | ⟨hb, _⟩
    · rw [e1, e2, e3] at hl
      omega
    · have hbd := h.bounds hb
      have hla := (h.on hb).2.1
      rw [h.cost_on hb] at hl
      omega
  · have := h.left
    omega
/-- What a sorter is between two steps: st steps were gone, R are left; the blocks Z are none of its own. -/
def SoSt (B : Nat) (w : World) (b n : Nat) (T : List UInt8) (Z : List Nat) (st R : Nat) : Prop :=
  ∃ (bo bc ba : Nat) (vk vw : Value) (kb : List Nat) (S : SS), IsSo B w b bo bc ba vk vw n (kb ++ Z) S ∧ (S.steps = st ∧ S.reach ≤ 2 * n ∧ ∀ g ∈ kb, g ∉ Z) ∧
    ((vk = .nilFunc ∧ IsSorted T S.ord ∧ R = 0) ∨
     ∃ K, KeyH T (bytesBy S.reach) K ∧ KeyV w vk kb bc n S.cls K ∧ (∀ i, i < n → K i ≤ 1000000000000) ∧ Due T K S n R)
theorem KbSame.refl (w : World) (kb : List Nat) : KbSame w w kb := fun _ _ => rfl
theorem KbSame.part {w w' : World} {kb Z : List Nat} (h : KbSame w w' (kb ++ Z)) : KbSame w w' Z := fun g hg => h g (List.mem_append_right _ hg)
theorem SoSt.below {B : Nat} {w w' : World} {b n : Nat} {T : List UInt8} {Z : List Nat} {st R : Nat} (h : SoSt B w b n T Z st R) (ht : Below w.heap.size w w') : SoSt B w' b n T Z st R := by
  obtain ⟨bo, bc, ba, vk, vw, kb, S, h1, h2, h3⟩ := h
  refine ⟨bo, bc, ba, vk, vw, kb, S, h1.below ht, h2, ?_⟩
  rcases h3 with h3 | ⟨K, k1, k2, k3⟩
  · exact Or.inl h3
  · exact Or.inr ⟨K, k1, k2.same (fun g hg => ht.block g (h1.kap g (List.mem_append_left _ hg)).1), k3⟩
/-- Blocks that came behind it are none of its own. -/
theorem SoSt.with {B : Nat} {w w' : World} {b n : Nat} {T : List UInt8} {Z : List Nat} {st R : Nat} (h : SoSt B w b n T Z st R) (ht : Below w.heap.size w w') (Y : List Nat) (hY : ∀ g ∈ Y, w.heap.size ≤ g ∧ g < w'.heap.size) : SoSt B w' b n T (Z ++ Y) st R := by
  obtain ⟨bo, bc, ba, vk, vw, kb, S, h1, ⟨h2a, h2b, h2c⟩, h3⟩ := h
  have h4 := h1.below ht
  refine ⟨bo, bc, ba, vk, vw, kb, S, ⟨h4.obj, h4.ro, h4.rc, h4.ra, h4.lo, h4.lc, h4.la, h4.wt, h4.apart, h4.wap, h4.base, ?_⟩, ⟨h2a, h2b, ?_⟩, ?_⟩
  · intro g hg
    rw [← List.append_assoc] at hg
    rcases List.mem_append.1 hg with hg | hg
    · exact h4.kap g hg
    · obtain ⟨a1, a2⟩ := hY g hg
      have l1 := h1.obj.lt
      have l2 := h1.ro.lt
      have l3 := h1.rc.lt
      have l4 := h1.ra.lt
      exact ⟨a2, by omega, by omega, by omega, by omega, fun e => by have := (h1.wt.lt g e).2; omega⟩
  · intro g hg hz
    rcases List.mem_append.1 hz with hz | hz
    · exact h2c g hg hz
    · have := (h1.kap g (List.mem_append_left _ hg)).1
      have := (hY g hz).1
      omega
  · rcases h3 with h3 | ⟨K, k1, k2, k3⟩
    · exact Or.inl h3
    · exact Or.inr ⟨K, k1, k2.same (fun g hg => ht.block g (h1.kap g (List.mem_append_left _ hg)).1), k3⟩
/-- What none of its blocks is may turn. -/
theorem SoSt.touched {B : Nat} {w w' : World} {b n : Nat} {T : List UInt8} {Z : List Nat} {st R : Nat} (h : SoSt B w b n T Z st R) {X : Nat → Prop} (ht : Touch X w w') (hX : ∀ k, k < w.heap.size → X k → k ∈ Z) : SoSt B w' b n T Z st R := by
  obtain ⟨bo, bc, ba, vk, vw, kb, S, h1, ⟨h2a, h2b, h2c⟩, h3⟩ := h
  have hz : ∀ k, k < w.heap.size → X k → k ≠ b ∧ k ≠ bo ∧ k ≠ bc ∧ k ≠ ba ∧ vw.ownBlock ≠ some k := fun k hk hx => (h1.kap k (List.mem_append_right _ (hX k hk hx))).2
  refine ⟨bo, bc, ba, vk, vw, kb, S, ⟨h1.obj.other ht (fun e => (hz b h1.obj.lt e).1 rfl), h1.ro.other ht (fun e => (hz bo h1.ro.lt e).2.1 rfl), h1.rc.other ht (fun e => (hz bc h1.rc.lt e).2.2.1 rfl), h1.ra.other ht (fun e => (hz ba h1.ra.lt e).2.2.2.1 rfl), h1.lo, h1.lc, h1.la, h1.wt.same (fun k hk => ht.block k (h1.wt.lt k hk).2 (fun e => (hz k (h1.wt.lt k hk).2 e).2.2.2.2 hk)), h1.apart, h1.wap, h1.base, fun g hg => ⟨Nat.lt_of_lt_of_le (h1.kap g hg).1 ht.size, (h1.kap g hg).2⟩⟩, ⟨h2a, h2b, h2c⟩, ?_⟩
  rcases h3 with h3 | ⟨K, k1, k2, k3⟩
  · exact Or.inl h3
  · exact Or.inr ⟨K, k1, k2.same (fun g hg => by
      have hl := (h1.kap g (List.mem_append_left _ hg)).1
      exact ht.block g hl (fun e => h2c g hg (hX g hl e))), k3⟩
def swapS (S : SS) : SS := { S with cls := S.asd, asd := S.cls, made := 0 }
section
variable {B : Nat} {b bo bc ba n : Nat} {vk vw : Value} {kb : List Nat} {S : SS}
/-- Classes and places laid aside change their rows; none is made. -/
theorem IsSo.swapped {w : World} (h : IsSo B w b bo bc ba vk vw n kb S) :
    IsSo B (((w.setCell ⟨b, 1, none⟩ (.slice (some ⟨ba, 0, none⟩) n n)).setCell ⟨b, 2, none⟩ (.slice (some ⟨bc, 0, none⟩) n n)).setCell ⟨b, 9, none⟩ (.int .i64 0)) b bo ba bc vk vw n kb (swapS S) ∧
    Touch (· = b) w (((w.setCell ⟨b, 1, none⟩ (.slice (some ⟨ba, 0, none⟩) n n)).setCell ⟨b, 2, none⟩ (.slice (some ⟨bc, 0, none⟩) n n)).setCell ⟨b, 9, none⟩ (.int .i64 0)) := by
  have ht : Touch (· = b) w (((w.setCell ⟨b, 1, none⟩ (.slice (some ⟨ba, 0, none⟩) n n)).setCell ⟨b, 2, none⟩ (.slice (some ⟨bc, 0, none⟩) n n)).setCell ⟨b, 9, none⟩ (.int .i64 0)) := touch_cell (touch_cell (touch_cell (Touch.refl _ _)))
  obtain ⟨a1, a2, a3, a4, a5, a6⟩ := h.apart
  refine ⟨⟨h.obj.swap.set9 0, h.ro.other ht (fun e => a1 e.symm), h.ra.other ht (fun e => a3 e.symm), h.rc.other ht (fun e => a2 e.symm), h.lo, h.la, h.lc, h.wt.same (fun k hk => ht.block k (h.wt.lt k hk).2 (h.wap k hk).1), ⟨a1, a3, a2, a5, a4, fun e => a6 e.symm⟩, ?_, ?_, ?_⟩, ht⟩
  · intro k hk
    obtain ⟨k1, k2, k3, k4⟩ := h.wap k hk
    exact ⟨k1, k2, k4, k3⟩
  · obtain ⟨k1, k2, k3, k4⟩ := h.base
    exact ⟨k1, k2, k4, k3⟩
  · intro g hg
    obtain ⟨k1, k2, k3, k4, k5, k6⟩ := h.kap g hg
    exact ⟨Nat.lt_of_lt_of_le k1 ht.size, k2, k3, k5, k4, k6⟩
/-- The key is none any more. -/
theorem IsSo.keyNone {w : World} (h : IsSo B w b bo bc ba vk vw n kb S) :
    IsSo B (w.setCell ⟨b, 4, none⟩ .nilFunc) b bo bc ba .nilFunc vw n kb S ∧ Touch (· = b) w (w.setCell ⟨b, 4, none⟩ .nilFunc) := by
  have ht : Touch (· = b) w (w.setCell ⟨b, 4, none⟩ .nilFunc) := touch_cell (Touch.refl _ _)
  obtain ⟨a1, a2, a3, a4, a5, a6⟩ := h.apart
  exact ⟨⟨h.obj.set4 .nilFunc, h.ro.other ht (fun e => a1 e.symm), h.rc.other ht (fun e => a2 e.symm), h.ra.other ht (fun e => a3 e.symm), h.lo, h.lc, h.la, h.wt.same (fun k hk => ht.block k (h.wt.lt k hk).2 (h.wap k hk).1), h.apart, h.wap, h.base, fun g hg => ⟨Nat.lt_of_lt_of_le (h.kap g hg).1 ht.size, (h.kap g hg).2⟩⟩, ht⟩
/-- Other boxes are the key's. -/
theorem IsSo.keyed {w : World} (h : IsSo B w b bo bc ba vk vw n kb S) (kb' : List Nat) (hk : ∀ g ∈ kb', g < w.heap.size ∧ g ≠ b ∧ g ≠ bo ∧ g ≠ bc ∧ g ≠ ba ∧ vw.ownBlock ≠ some g) : IsSo B w b bo bc ba vk vw n kb' S :=
  ⟨h.obj, h.ro, h.rc, h.ra, h.lo, h.lc, h.la, h.wt, h.apart, h.wap, h.base, hk⟩
end
theorem KeyV.more {w : World} {vk : Value} {kb : List Nat} {bc n : Nat} {C : List Nat} {K : Nat → Nat} (h : KeyV w vk kb bc n C K) (Z : List Nat) : KeyV w vk (kb ++ Z) bc n C K := by
  obtain ⟨F, caps, h1, h2, h3⟩ := h
  exact ⟨F, caps, h1, h2, fun w' h4 h5 => h3 w' (fun g hg => h4 g (List.mem_append_left _ hg)) h5⟩
set_option maxRecDepth 100000 in
set_option maxHeartbeats 1000000 in
/-- The key of a further pass is made: three boxes. -/
theorem classesOf_any (w : World) (bc n r : Nat) (hn : n ≤ 900000) (h0 : 0 < n) (hr : r ≤ 1000000000) :
    Calls Try.prog 67 #[.slice (some ⟨bc, 0, none⟩) n n, .int .i64 (r : Int)] w fun e w' => ∃ g1 g2 g3, e = .returned (.func (.func 68) #[] #[.pointer (some ⟨g1, 0, none⟩), .pointer (some ⟨g2, 0, none⟩), .pointer (some ⟨g3, 0, none⟩)]) ∧ Caught16 w' g1 g2 g3 bc n r ∧ Below w.heap.size w w' ∧
      (∀ g ∈ [g1, g2, g3], w.heap.size ≤ g ∧ g < w'.heap.size) := by
  have hq : (r : Int).tmod (n : Int) = ((r % n : Nat) : Int) := by rw [Int.tmod_eq_emod_of_nonneg (by omega)]; rfl
  have hrn : r % n < n := Nat.mod_lt _ h0
  obtain ⟨q, hqq⟩ : ∃ q, r % n = q := ⟨_, rfl⟩
  rw [hqq] at hq hrn
  have hqw : IntKind.i64.wrap (q : Int) = (q : Int) := IntWalk.i64_in _ (by omega)
  have hn0 : ((n : Int) == 0) = false := by rw [beq_eq_false_iff_ne]; omega
  have HF : ∀ (o1 o2 o3 : Obj) (x1 x2 x3 : Value), o1 = .cells #[x1] 23 → o2 = .cells #[x2] 3 → o3 = .cells #[x3] 3 →
      (((w.alloc o1).alloc o2).alloc o3).cell? ⟨w.heap.size + 1, 0, none⟩ = some x2 ∧ (((w.alloc o1).alloc o2).alloc o3).cell? ⟨w.heap.size + 1 + 1, 0, none⟩ = some x3 ∧ (((w.alloc o1).alloc o2).alloc o3).cell? ⟨w.heap.size, 0, none⟩ = some x1 := by
    rintro o1 o2 o3 x1 x2 x3 rfl rfl rfl
    have z1 : (w.alloc (.cells #[x1] 23)).heap.size = w.heap.size + 1 := by simp
    have z2 : ((w.alloc (.cells #[x1] 23)).alloc (.cells #[x2] 3)).heap.size = w.heap.size + 1 + 1 := by simp
    have h1 := heap_alloc_new w (.cells #[x1] 23)
    have h2 := heap_alloc_new (w.alloc (.cells #[x1] 23)) (.cells #[x2] 3)
    have h3 := heap_alloc_new ((w.alloc (.cells #[x1] 23)).alloc (.cells #[x2] 3)) (.cells #[x3] 3)
    rw [z1] at h2
    rw [z2] at h3
    have c1 := cell_of_row _ _ 0 _ _ _ h1
    have c2 := cell_of_row _ _ 0 _ _ _ h2
    have c3 := cell_of_row _ _ 0 _ _ _ h3
    refine ⟨?_, c3, ?_⟩
    · rw [World.cell?_alloc_some _ _ _ (by rw [c2]; rfl), c2]; rfl
    · rw [World.cell?_alloc_some _ _ _ (by rw [World.cell?_alloc_some _ _ _ (by rw [c1]; rfl), c1]; rfl), World.cell?_alloc_some _ _ _ (by rw [c1]; rfl), c1]; rfl
  have HFF := Lib.hid (HF _ _ _ (.slice (some ⟨bc, 0, none⟩) n n) (.int .i64 (q : Int)) (.int .i64 (n : Int)) rfl rfl rfl)
  have HBB : Hid (Below w.heap.size w (((w.alloc (.cells #[.slice (some ⟨bc, 0, none⟩) n n] 23)).alloc (.cells #[.int .i64 (q : Int)] 3)).alloc (.cells #[.int .i64 (n : Int)] 3))) := Lib.hid ((((Below.refl w.heap.size w).alloc (Nat.le_refl _) _).alloc (by simp) _).alloc (by simp; omega) _)
  have HSZ : Hid ((((w.alloc (.cells #[.slice (some ⟨bc, 0, none⟩) n n] 23)).alloc (.cells #[.int .i64 (q : Int)] 3)).alloc (.cells #[.int .i64 (n : Int)] 3)).heap.size = w.heap.size + 3) := Lib.hid (by simp)
  clear HF
  go_enter Try.func67, Try.ntmps67
  go_wp2_with fail
  go_ret
  refine ⟨_, _, _, rfl, ?_, HBB.out, ?_⟩
  · obtain ⟨c1, c2, c3⟩ := HFF.out
    exact ⟨by rw [hqq]; exact c1, c2, c3⟩
  · intro g hg
    have := HSZ.out
    simp only [List.mem_cons, List.not_mem_nil, or_false] at hg
    rcases hg with rfl | rfl | rfl <;> omega
end Go.Proofs.Ytfedhppcmmponaa

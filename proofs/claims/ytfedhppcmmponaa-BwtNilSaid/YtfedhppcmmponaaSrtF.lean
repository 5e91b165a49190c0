/-
  THE WALKS OF LAYER 16's CODE (package sorter): places of both halves are put.
-/
import Derived.Test.YtfedhppcmmponaaSrtD
import Derived.Test.YtfedhppcmmponaaSrtE
import Derived.Test.YtfedhppcmmponaaRotF
namespace Go.Proofs.Ytfedhppcmmponaa
open Go.RowKit BwtM SrtM PkM
set_option linter.unusedVariables false
set_option linter.unusedSimpArgs false
section
variable {B : Nat} {b bo bc ba n : Nat} {vk vw : Value} {kb : List Nat} {S : SS}
/-- What putting leaves as it was. -/
structure PutSame (S S' : SS) : Prop where
  cls : S'.cls = S.cls
  asd : S'.asd = S.asd
  reach : S'.reach = S.reach
  ps : S'.ps = S.ps
  laid : S'.laid = S.laid
  made : S'.made = S.made
  steps : S'.steps = S.steps
theorem PutSame.refl (S : SS) : PutSame S S := ⟨rfl, rfl, rfl, rfl, rfl, rfl, rfl⟩
/-- Where putting stands: j places are put. -/
def PutAt (B : Nat) (w wr : World) (b bo bc ba n : Nat) (vk vw : Value) (kb : List Nat) (T : List UInt8) (K : Nat → Nat) (S S' : SS) (ps : List Part) (p : Part) (A : List Nat) (m R j : Nat) : Prop :=
  IsSo B wr b bo bc ba vk vw n kb S' ∧ Srt T K S' ps p A m (R - j) ∧ PutSame S S' ∧ S'.first + S'.second = S.first + S.second + j ∧ j ≤ R ∧ Below B w wr ∧ KbSame w wr kb
def PutP (B : Nat) (w wr : World) (b bo bc ba n : Nat) (vk vw : Value) (kb : List Nat) (T : List UInt8) (K : Nat → Nat) (S : SS) (ps : List Part) (p : Part) (A : List Nat) (m R j : Nat) (e : Ending) : Prop :=
  e = .returned (.int .i64 (j : Int)) ∧ ∃ S', PutAt B w wr b bo bc ba n vk vw kb T K S S' ps p A m R j
theorem KbSame.trans {w w1 w2 : World} {kb : List Nat} (h : KbSame w w1 kb) (g : KbSame w1 w2 kb) : KbSame w w2 kb := fun x hx => (g x hx).trans (h x hx)
theorem touch_own {w w1 : World} {X : Nat → Prop} {v : Value} {B : Nat} {ps : List Part} (h : OwnP w B v ps) (ht : Touch X w w1) (hX : ∀ k, v.ownBlock = some k → ¬ X k) : OwnP w1 B v ps := h.same (fun k hk => ht.block k (h.lt k hk).2 (hX k hk))
/-- A place is put: the order's cell, then the count of the first half. -/
theorem IsSo.putFirst {wr : World} (h : IsSo B wr b bo bc ba vk vw n kb S) (at_ x : Nat) (ha : at_ < n) :
    IsSo B ((wr.setCell ⟨bo, at_, none⟩ (.int .i64 (x : Int))).setCell ⟨b, 7, none⟩ (.int .i64 ((S.first + 1 : Nat) : Int))) b bo bc ba vk vw n kb { S with ord := S.ord.set at_ x, first := S.first + 1 } ∧
    SoObj (wr.setCell ⟨bo, at_, none⟩ (.int .i64 (x : Int))) b bo bc ba n vk vw S := by
  have hr := (h.ro.cell (i := at_) (by rw [toI_length, h.lo]; exact ha)).2.2 (x : Int)
  have e : (toI S.ord).set at_ (x : Int) = toI (S.ord.set at_ x) := by unfold toI; rw [List.map_set]
  rw [e] at hr
  have h1 := h.inOrd (touch_cell (Touch.refl _ _)) (S.ord.set at_ x) (by rw [List.length_set]; exact h.lo) hr
  exact ⟨h1.own (touch_cell (Touch.refl _ _)) (h1.obj.set7 (S.first + 1)) rfl rfl rfl rfl, h.obj.other (touch_cell (b := bo) (Touch.refl _ _)) (fun e => h.apart.1 e)⟩
theorem IsSo.putSecond {wr : World} (h : IsSo B wr b bo bc ba vk vw n kb S) (at_ x : Nat) (ha : at_ < n) :
    IsSo B ((wr.setCell ⟨bo, at_, none⟩ (.int .i64 (x : Int))).setCell ⟨b, 8, none⟩ (.int .i64 ((S.second + 1 : Nat) : Int))) b bo bc ba vk vw n kb { S with ord := S.ord.set at_ x, second := S.second + 1 } ∧
    SoObj (wr.setCell ⟨bo, at_, none⟩ (.int .i64 (x : Int))) b bo bc ba n vk vw S := by
  have hr := (h.ro.cell (i := at_) (by rw [toI_length, h.lo]; exact ha)).2.2 (x : Int)
  have e : (toI S.ord).set at_ (x : Int) = toI (S.ord.set at_ x) := by unfold toI; rw [List.map_set]
  rw [e] at hr
  have h1 := h.inOrd (touch_cell (Touch.refl _ _)) (S.ord.set at_ x) (by rw [List.length_set]; exact h.lo) hr
  exact ⟨h1.own (touch_cell (Touch.refl _ _)) (h1.obj.set8 (S.second + 1)) rfl rfl rfl rfl, h.obj.other (touch_cell (b := bo) (Touch.refl _ _)) (fun e => h.apart.1 e)⟩
theorem touch_two16 {wr : World} (i j : Nat) (x y : Value) : Touch (fun k => k = bo ∨ k = b) wr ((wr.setCell ⟨bo, i, none⟩ x).setCell ⟨b, j, none⟩ y) := by
  have t1 : Touch (· = bo) wr (wr.setCell ⟨bo, i, none⟩ x) := touch_cell (Touch.refl _ _)
  have t2 : Touch (· = b) (wr.setCell ⟨bo, i, none⟩ x) ((wr.setCell ⟨bo, i, none⟩ x).setCell ⟨b, j, none⟩ y) := touch_cell (Touch.refl _ _)
  exact (t1.mono (fun _ h => Or.inl h)).trans (t2.mono (fun _ h => Or.inr h)) (fun _ h => Or.inl h)
set_option maxRecDepth 100000 in
set_option maxHeartbeats 8000000 in
theorem sput_any (T : List UInt8) (K : Nat → Nat) (w : World) (ps : List Part) (p : Part) (A : List Nat) (m R k : Nat) (h : IsSo B w b bo bc ba vk vw n kb S) (hs : Srt T K S ps p A m R) (hbg : p.begun = true) (hlaid : 0 < k → S.laid = p.mid - p.lo)
    (hkey : KeyV w vk kb bc n S.cls K) (hK : ∀ i, i < n → K i ≤ 1000000000000) (hTn : T.length = n) (hn : n ≤ 900000) (hk : k ≤ 9223372036854775807) (hb : B ≤ w.heap.size) :
    Calls Try.prog 59 #[.pointer (some ⟨b, 0, none⟩), .agg #[.int .i64 (p.lo : Int), .int .i64 (p.hi : Int), .bool p.begun], .int .i64 (k : Int)] w fun e w' =>
    PutP B w w' b bo bc ba n vk vw kb T K S ps p A m R (min k (p.hi - p.lo - (S.first + S.second))) e := by
  have hfit := hs.fit
  rw [hTn] at hfit
  obtain ⟨f1, f2, f3, f4, f5⟩ := hfit
  have hf2 := (hs.fits p (by simp)).2.2 hbg
  have hg0 := heap_alloc_new w (.cells #[.int .i64 (p.lo : Int), .int .i64 (p.hi : Int), .bool p.begun] 72)
  have hB0 := (Below.refl w.heap.size w).alloc (Nat.le_refl _) (.cells #[.int .i64 (p.lo : Int), .int .i64 (p.hi : Int), .bool p.begun] 72)
  have H0 := Lib.hid (h.below hB0)
  have HB0 := Lib.hid hB0
  have HS0 : Hid (w.heap.size < (w.alloc (.cells #[.int .i64 (p.lo : Int), .int .i64 (p.hi : Int), .bool p.begun] 72)).heap.size) := Lib.hid (by simp)
  have HMID := Lib.hid (fun W => pmid_any p.lo p.hi p.begun W (by omega) (by omega))
  have HSIZ := Lib.hid (fun W => psize_any p.lo p.hi p.begun W (by omega) (by omega))
  have hmb : (⟨p.lo, p.hi, p.begun⟩ : Part).mid = p.mid := rfl
  rw [hmb] at HMID
  have HSRT := Lib.hid hs
  have HBG := Lib.hid hbg
  have HLD := Lib.hid hlaid
  obtain ⟨F, caps, rfl, he, hcall⟩ := hkey
  have HCALL := Lib.hid hcall
  have HKAP := Lib.hid h.kap
  have HKB0 : Hid (KbSame w (w.alloc (.cells #[.int .i64 (p.lo : Int), .int .i64 (p.hi : Int), .bool p.begun] 72)) kb) := Lib.hid (fun x hx => alloc_old (h.kap x hx).1)
  obtain ⟨x1, hx1⟩ : ∃ x1, p.mid - p.lo = x1 := ⟨_, rfl⟩
  obtain ⟨x2, hx2⟩ : ∃ x2, p.hi - p.mid = x2 := ⟨_, rfl⟩
  obtain ⟨sz, hsz⟩ : ∃ sz, p.hi - p.lo = sz := ⟨_, rfl⟩
  have hx1i : (p.mid : Int) - (p.lo : Int) = (x1 : Int) := by omega
  have hx1w : IntKind.i64.wrap (x1 : Int) = (x1 : Int) := IntWalk.i64_in _ (by omega)
  have hs1 := fun W => isl_h ba 0 x1 n n (by omega) (Nat.le_refl _) (by omega) W
  have hs2 := fun W => isl_lh bo p.mid p.hi n f2 f3 (by omega) (by omega) W
  rw [hx2] at hs2
  rw [hsz] at HSIZ ⊢
  have hbl := h.obj.lt
  have hbol := h.ro.lt
  have HBL : Hid (b < w.heap.size ∧ bo < w.heap.size) := Lib.hid ⟨hbl, hbol⟩
  obtain ⟨tot, htot⟩ : ∃ tot, sz - (S.first + S.second) = tot := ⟨_, rfl⟩
  have HTOT := Lib.hid htot
  rw [htot]
  have hxx : x1 + x2 = sz ∧ p.lo + x1 = p.mid ∧ p.mid + x2 = p.hi ∧ p.mid < n := by omega
  obtain ⟨hxs, hxl, hxm, hmn⟩ := hxx
  have HXL := Lib.hid hxl
  have HXM := Lib.hid hxm
  have HXS := Lib.hid hxs
  clear hB0 hmb h hs hbg hlaid hcall hbl hbol htot f4 hxs hxl hxm
  go_enter Try.func59, Try.ntmps59
  go_wp2_with fail
  obtain ⟨pb, hpb⟩ : ∃ pb, w.heap.size = pb := ⟨_, rfl⟩
  have HPB := Lib.hid hpb
  rw [hpb] at hg0 HS0 ⊢
  generalize w.alloc (.cells #[.int .i64 (p.lo : Int), .int .i64 (p.hi : Int), .bool p.begun] 72) = w1 at *
  have HG0 := Lib.hid hg0
  obtain ⟨d0, _, d2, _⟩ := H0.out.obj.cells
  have q0 : ∀ sb : Beneath w1.heap.size w1, sb.val.cell? ⟨b, 0, none⟩ = some (.slice (some ⟨bo, 0, none⟩) n n) := fun sb => Beneath.cell d0 H0.out.obj.lt sb
  have q2 : ∀ sb : Beneath w1.heap.size w1, sb.val.cell? ⟨b, 2, none⟩ = some (.slice (some ⟨ba, 0, none⟩) n n) := fun sb => Beneath.cell d2 H0.out.obj.lt sb
  have p0 : ∀ sb : Beneath w1.heap.size w1, sb.val.cell? ⟨pb, 0, none⟩ = some (.int .i64 (p.lo : Int)) := fun sb => Beneath.cell (by rw [cell_of_row _ _ 0 _ _ _ hg0]; rfl) HS0.out sb
  have p1 : ∀ sb : Beneath w1.heap.size w1, sb.val.cell? ⟨pb, 1, none⟩ = some (.int .i64 (p.hi : Int)) := fun sb => Beneath.cell (by rw [cell_of_row _ _ 1 _ _ _ hg0]; rfl) HS0.out sb
  have p2 : ∀ sb : Beneath w1.heap.size w1, sb.val.cell? ⟨pb, 2, none⟩ = some (.bool p.begun) := fun sb => Beneath.cell (by rw [cell_of_row _ _ 2 _ _ _ hg0]; rfl) HS0.out sb
  clear d0 d2 hg0
  refine wp_region_beneath w1.heap.size w1 (Below.refl _ _) (by kernel_rfl) (by kernel_rfl) ?_
  repeat (go_big_quiet_step (first
    | (go_at_call 66; rename_i sb; exact Calls.beneath sb (Nat.le_refl _) (HMID.out _))))
  refine wpQuiet_nil ?_
  rintro _ ⟨sb, rfl⟩
  have H2 := Lib.hid (H0.out.below sb.is)
  have HB2 : Hid (Below B w sb.val) := Lib.hid ((HB0.out.trans (sb.is.mono HB0.out.size)).mono hb)
  have HG2 : Hid (sb.val.heap[pb]? = some (.cells #[.int .i64 (p.lo : Int), .int .i64 (p.hi : Int), .bool p.begun] 72 (0, 0))) := Lib.hid ((sb.is.block pb HS0.out).trans HG0.out)
  have HK2 : Hid (KbSame w sb.val kb) := Lib.hid (HKB0.out.trans (fun x hx => sb.is.block x (H0.out.kap x hx).1))
  clear q0 q2 p0 p1 p2
  generalize sb.val = w2 at *
  have hlim : p.lo ≤ 900000 ∧ p.hi ≤ 900000 ∧ x1 ≤ 900000 ∧ x2 ≤ 900000 ∧ sz ≤ 900000 := by omega
  go_wp2_with fail
  go_loopw [9] (fun vg wr => ∃ (j : Nat) (S' : SS), vg = .int .i64 (j : Int) ∧ j ≤ k ∧ j ≤ tot ∧ PutAt B w wr b bo bc ba n (.func (.func F) #[] caps) vw kb T K S S' ps p A m R j ∧ wr.heap[pb]? = some (.cells #[.int .i64 (p.lo : Int), .int .i64 (p.hi : Int), .bool p.begun] 72 (0, 0))) (fun vg _ => k - (intOf vg).toNat)
  case atStart => exact ⟨0, S, rfl, by omega, by omega, ⟨H2.out, by rw [Nat.sub_zero]; exact HSRT.out, PutSame.refl S, by omega, by omega, HB2.out, HK2.out⟩, HG2.out⟩
  case round =>
    clear H2 HB2 HG2 HK2
    obtain ⟨j, S', rfl, hjk, hjt, ⟨hI, hS, hSm, hsum, hjR, hB, hKB⟩, hG⟩ := hrel
    have HI := Lib.hid hI
    have HS := Lib.hid hS
    have HSM := Lib.hid hSm
    have HB := Lib.hid hB
    have HKS := Lib.hid hKB
    have HG := Lib.hid hG
    have HSUM := Lib.hid hsum
    have hbd := hS.bounds HBG.out
    rw [hx1, hx2] at hbd
    obtain ⟨hb1, hb2⟩ := hbd
    obtain ⟨d0, _, d2, _, d4, _, _, d7, d8, _⟩ := hI.obj.cells
    have hpl : pb < wr.heap.size := (Array.getElem?_eq_some_iff.1 hG).1
    obtain ⟨fi, hfi⟩ : ∃ fi, S'.first = fi := ⟨_, rfl⟩
    obtain ⟨se, hse⟩ : ∃ se, S'.second = se := ⟨_, rfl⟩
    have HFI := Lib.hid hfi
    have HSE := Lib.hid hse
    rw [hfi] at d7 hb1 HSUM
    rw [hse] at d8 hb2 HSUM
    obtain ⟨fs, hfs⟩ : ∃ fs, fi + se = fs := ⟨_, rfl⟩
    have hfsi : (fi : Int) + (se : Int) = (fs : Int) := by omega
    have hfsw : IntKind.i64.wrap (fs : Int) = (fs : Int) := IntWalk.i64_in _ (by omega)
    clear hI hS hSm hB hKB hG hsum hfi hse
    have q4 : ∀ sb : Beneath wr.heap.size wr, sb.val.cell? ⟨b, 7, none⟩ = some (.int .i64 (fi : Int)) := fun sb => Beneath.cell d7 HI.out.obj.lt sb
    have q5 : ∀ sb : Beneath wr.heap.size wr, sb.val.cell? ⟨b, 8, none⟩ = some (.int .i64 (se : Int)) := fun sb => Beneath.cell d8 HI.out.obj.lt sb
    have p0 : ∀ sb : Beneath wr.heap.size wr, sb.val.cell? ⟨pb, 0, none⟩ = some (.int .i64 (p.lo : Int)) := fun sb => Beneath.cell (by rw [cell_of_row _ _ 0 _ _ _ HG.out]; rfl) hpl sb
    have p1 : ∀ sb : Beneath wr.heap.size wr, sb.val.cell? ⟨pb, 1, none⟩ = some (.int .i64 (p.hi : Int)) := fun sb => Beneath.cell (by rw [cell_of_row _ _ 1 _ _ _ HG.out]; rfl) hpl sb
    have p2 : ∀ sb : Beneath wr.heap.size wr, sb.val.cell? ⟨pb, 2, none⟩ = some (.bool p.begun) := fun sb => Beneath.cell (by rw [cell_of_row _ _ 2 _ _ _ HG.out]; rfl) hpl sb
    clear d0 d2 d4 d7 d8
    by_cases hjl : j < k
    · have hji : (j : Int) < (k : Int) := by omega
      by_cases hfl : fs < sz
      · have hfli : (fs : Int) < (sz : Int) := by omega
        go_wp2_with fail
        refine wp_region_beneath wr.heap.size wr (Below.refl _ _) (by kernel_rfl) (by kernel_rfl) ?_
        repeat (go_big_quiet_step (first
          | (go_at_call 60; rename_i sb; exact Calls.beneath sb (Nat.le_refl _) (HSIZ.out _))))
        refine wpQuiet_nil ?_
        rintro _ ⟨sb, rfl⟩
        have HI3 := Lib.hid (HI.out.below sb.is)
        have HB3 : Hid (Below B w sb.val) := Lib.hid (HB.out.trans (sb.is.mono (Nat.le_trans hb HB.out.size)))
        have HG3 : Hid (sb.val.heap[pb]? = some (.cells #[.int .i64 (p.lo : Int), .int .i64 (p.hi : Int), .bool p.begun] 72 (0, 0))) := Lib.hid ((sb.is.block pb hpl).trans HG.out)
        have HK3 : Hid (KbSame w sb.val kb) := Lib.hid (HKS.out.trans (fun x hx => sb.is.block x (HI.out.kap x hx).1))
        clear q4 q5 p0 p1 p2 HI HB HG HKS
        generalize sb.val = w3 at *
        have hxs := HXS.out
        have hxl := HXL.out
        have hxm := HXM.out
        obtain ⟨lf, hlf⟩ : ∃ lf, p.lo + fi = lf := ⟨_, rfl⟩
        obtain ⟨at_, hat⟩ : ∃ at_, lf + se = at_ := ⟨_, rfl⟩
        have hlfi : (p.lo : Int) + (fi : Int) = (lf : Int) := by omega
        have hati : (lf : Int) + (se : Int) = (at_ : Int) := by omega
        have hlfw : IntKind.i64.wrap (lf : Int) = (lf : Int) := IntWalk.i64_in _ (by omega)
        have hatw : IntKind.i64.wrap (at_ : Int) = (at_ : Int) := IntWalk.i64_in _ (by omega)
        have hatn : at_ < n := by omega
        have hatni : (at_ : Int) < (n : Int) := by omega
        have HATE : Hid (p.lo + fi + se = at_) := Lib.hid (by rw [hlf, hat])
        have hla := HI3.out.la
        have hlo := HI3.out.lo
        obtain ⟨a, haE⟩ : ∃ a, S'.asd.getD fi 0 = a := ⟨_, rfl⟩
        obtain ⟨c, hcE⟩ : ∃ c, S'.ord.getD (p.mid + se) 0 = c := ⟨_, rfl⟩
        have HAE := Lib.hid haE
        have HCE := Lib.hid hcE
        have HAN : Hid (fi < x1 → a < n ∧ w3.cell? ⟨ba, fi, none⟩ = some (.int .i64 (a : Int))) := Lib.hid (fun h => by
          have h1 := (HS.out.on HBG.out).2.2.2.2 fi (by rw [HSM.out.laid, (HLD.out (by omega))]; omega)
          have h2 := (HI3.out.ra.cell (i := fi) (by rw [toI_length, hla]; omega)).1
          rw [toI_getD, haE] at h2
          refine ⟨?_, h2⟩
          rw [← haE, h1, ← hTn]
          exact HS.out.lt (by omega))
        have HCN : Hid (se < x2 → c < n ∧ w3.cell? ⟨bo, p.mid + se, none⟩ = some (.int .i64 (c : Int))) := Lib.hid (fun h => by
          have h1 := HS.out.ord_get HBG.out (i := p.mid + se) (by rw [HFI.out, HSE.out]; omega)
          have h2 := (HI3.out.ro.cell (i := p.mid + se) (by rw [toI_length, hlo]; omega)).1
          rw [toI_getD, hcE] at h2
          refine ⟨?_, h2⟩
          rw [← hcE, h1, ← hTn]
          exact HS.out.lt (by omega))
        have HCC : Hid (∀ q m2, q < n → Calls Try.prog F (#[.int .i64 (q : Int)] ++ caps) (w3.drewN m2) fun e w' => e = .returned (.int .i64 (K q : Int)) ∧ ∃ m3, w' = (w3.drewN m2).drewN m3) := Lib.hid (fun q m2 hq => HCALL.out (w3.drewN m2) (fun x hx => HK3.out x hx) (by
          have := HI3.out.rc
          rw [HSM.out.cls] at this
          exact this) q hq)
        obtain ⟨d0, _, d2, _, d4, _, _, d7, d8, _⟩ := HI3.out.obj.cells
        rw [HFI.out] at d7
        rw [HSE.out] at d8
        have f7 := HI3.out.obj.frozen 7 (by omega)
        have f8 := HI3.out.obj.frozen 8 (by omega)
        have hbbo : ¬ b = bo := HI3.out.apart.1
        have fo := (HI3.out.ro.cell (i := at_) (by rw [toI_length, hlo]; exact hatn)).2.1
        have co := (HI3.out.ro.cell (i := at_) (by rw [toI_length, hlo]; exact hatn)).1
        have g0 : w3.cell? ⟨pb, 0, none⟩ = some (.int .i64 (p.lo : Int)) := by rw [cell_of_row _ _ 0 _ _ _ HG3.out]; rfl
        clear haE hcE hla hlo hlf hat hxs hxl hxm
        go_wp2_with fail
        go_quiet (fail)
        revert nq
        intro na
        have hxs := HXS.out
        by_cases hse2 : se = x2
        · have hE1 : ((se : Int) == (x2 : Int)) = true := by rw [beq_iff_eq]; omega
          have hfx : fi < x1 := by omega
          have hfxi : (fi : Int) < (x1 : Int) := by omega
          obtain ⟨han, ca⟩ := HAN.out hfx
          go_wp2_with fail
          go_quiet (fail)
          have HM := Lib.hid (HS.out.first HBG.out (by rw [HSM.out.laid]; exact (HLD.out (by omega))) (by rw [HFI.out, hx1]; omega) (Or.inl (by rw [HSE.out, hse2, hx2])) (S' := { S' with ord := S'.ord.set at_ a, first := fi + 1 }) rfl ⟨rfl, by rw [HFI.out], rfl⟩ rfl rfl (by rw [HFI.out, HSE.out, HATE.out]; rw [HAE.out]) rfl)
          have HTL : Hid (∀ W, Below w3.heap.size w3 W → IsSo B ((W.setCell ⟨bo, at_, none⟩ (.int .i64 (a : Int))).setCell ⟨b, 7, none⟩ (.int .i64 ((fi + 1 : Nat) : Int))) b bo bc ba (.func (.func F) #[] caps) vw n kb { S' with ord := S'.ord.set at_ a, first := fi + 1 } ∧ Below B w ((W.setCell ⟨bo, at_, none⟩ (.int .i64 (a : Int))).setCell ⟨b, 7, none⟩ (.int .i64 ((fi + 1 : Nat) : Int))) ∧ KbSame w ((W.setCell ⟨bo, at_, none⟩ (.int .i64 (a : Int))).setCell ⟨b, 7, none⟩ (.int .i64 ((fi + 1 : Nat) : Int))) kb ∧
              ((W.setCell ⟨bo, at_, none⟩ (.int .i64 (a : Int))).setCell ⟨b, 7, none⟩ (.int .i64 ((fi + 1 : Nat) : Int))).heap[pb]? = some (.cells #[.int .i64 (p.lo : Int), .int .i64 (p.hi : Int), .bool p.begun] 72 (0, 0))) := Lib.hid (fun W hW => by
            have h1 := HI3.out.below hW
            have h2 := (h1.putFirst at_ a hatn).1
            have t := touch_two16 (bo := bo) (b := b) (wr := W) at_ 7 (.int .i64 (a : Int)) (.int .i64 ((fi + 1 : Nat) : Int))
            have hz := hW.size
            refine ⟨by rw [HFI.out] at h2; exact h2, ?_, ?_, ?_⟩
            · exact (HB3.out.trans (hW.mono (Nat.le_trans hb HB3.out.size))).trans (t.below (Nat.le_trans (Nat.le_trans hb HB3.out.size) hz) (fun x hx => by
                obtain ⟨b1, b2, _⟩ := HI3.out.base
                rcases hx with e | e
                · omega
                · omega))
            · intro x hx
              obtain ⟨k1, k2, k3, _⟩ := HI3.out.kap x hx
              rw [t.block x (by omega) (fun e => by
                rcases e with e | e
                · exact k3 e
                · exact k2 e), hW.block x k1]
              exact HK3.out x hx
            · rw [t.block pb (by have := (Array.getElem?_eq_some_iff.1 HG3.out).1; omega) (fun e => by
                have h5 := HBL.out
                have h6 := HPB.out
                rcases e with e | e
                · omega
                · omega), hW.block pb (Array.getElem?_eq_some_iff.1 HG3.out).1]
              exact HG3.out)
          go_wp2_with fail
          obtain ⟨w4, hw4⟩ : ∃ w4, w4 = (w3.drewN na).drewN nq := ⟨_, rfl⟩
          rw [← hw4]
          have BW4 : Hid (Below w3.heap.size w3 (w4.drewN 1)) := Lib.hid (by rw [hw4]; exact ⟨rfl, rfl, rfl, Nat.le_refl _, fun _ _ => rfl⟩)
          have e0 : w4.cell? ⟨b, 0, none⟩ = some (.slice (some ⟨bo, 0, none⟩) n n) := by rw [hw4]; exact d0
          have e7 : w4.cell? ⟨b, 7, none⟩ = some (.int .i64 (fi : Int)) := by rw [hw4]; exact d7
          have e8 : w4.cell? ⟨b, 8, none⟩ = some (.int .i64 (se : Int)) := by rw [hw4]; exact d8
          have c4 := (show w4.cell? ⟨ba, fi, none⟩ = some (.int .i64 (a : Int)) from by rw [hw4]; exact ca)
          have eo : w4.cell? ⟨bo, at_, none⟩ = some (.int .i64 ((toI S'.ord).getD at_ 0)) := by rw [hw4]; exact co
          have fo4 : w4.frozen? ⟨bo, at_, none⟩ = false := by rw [hw4]; exact fo
          have f74 : w4.frozen? ⟨b, 7, none⟩ = false := by rw [hw4]; exact f7
          have f84 : w4.frozen? ⟨b, 8, none⟩ = false := by rw [hw4]; exact f8
          clear hw4 d0 d2 d4 d7 d8 co fo f7 f8 g0
          go_still_tail 13, (by kernel_rfl)
          change wpList _ _ _ _ _ (w4.drewN 1)
          go_wp2_with fail
          go_roundw
          case rel => exact ⟨j + 1, { S' with ord := S'.ord.set at_ a, first := fi + 1 }, by go_num, by omega, by have := HSUM.out; have := HTOT.out; omega, ⟨(HTL.out _ BW4.out).1, by rw [show R - (j + 1) = R - j - 1 by omega]; exact HM.out.2, ⟨HSM.out.cls, HSM.out.asd, HSM.out.reach, HSM.out.ps, HSM.out.laid, HSM.out.made, HSM.out.steps⟩, by have := HSUM.out; show fi + 1 + S'.second = _; rw [HSE.out]; omega, by have := HM.out.1; omega, (HTL.out _ BW4.out).2.1, (HTL.out _ BW4.out).2.2.1⟩, (HTL.out _ BW4.out).2.2.2⟩
          case measure => simp [intOf]; omega
        · have hE1 : ((se : Int) == (x2 : Int)) = false := by rw [beq_eq_false_iff_ne]; omega
          have hsx : se < x2 := by omega
          have hsxi : (se : Int) < (x2 : Int) := by omega
          obtain ⟨hcn, cc⟩ := HCN.out hsx
          by_cases hfx : fi < x1
          · have hfxi : (fi : Int) < (x1 : Int) := by omega
            obtain ⟨han, ca⟩ := HAN.out hfx
            by_cases hkk : K a ≤ K c
            · have hkki : (K a : Int) ≤ (K c : Int) := by omega
              go_wp2_with fail
              go_quiet ((exact quiet_more (HCC.out _ _ (by assumption))))
              have HM := Lib.hid (HS.out.first HBG.out (by rw [HSM.out.laid]; exact (HLD.out (by omega))) (by rw [HFI.out, hx1]; omega) (Or.inr (by rw [HFI.out, HSE.out, HAE.out, HCE.out]; exact hkk)) (S' := { S' with ord := S'.ord.set at_ a, first := fi + 1 }) rfl ⟨rfl, by rw [HFI.out], rfl⟩ rfl rfl (by rw [HFI.out, HSE.out, HATE.out]; rw [HAE.out]) rfl)
              have HTL : Hid (∀ W, Below w3.heap.size w3 W → IsSo B ((W.setCell ⟨bo, at_, none⟩ (.int .i64 (a : Int))).setCell ⟨b, 7, none⟩ (.int .i64 ((fi + 1 : Nat) : Int))) b bo bc ba (.func (.func F) #[] caps) vw n kb { S' with ord := S'.ord.set at_ a, first := fi + 1 } ∧ Below B w ((W.setCell ⟨bo, at_, none⟩ (.int .i64 (a : Int))).setCell ⟨b, 7, none⟩ (.int .i64 ((fi + 1 : Nat) : Int))) ∧ KbSame w ((W.setCell ⟨bo, at_, none⟩ (.int .i64 (a : Int))).setCell ⟨b, 7, none⟩ (.int .i64 ((fi + 1 : Nat) : Int))) kb ∧
                  ((W.setCell ⟨bo, at_, none⟩ (.int .i64 (a : Int))).setCell ⟨b, 7, none⟩ (.int .i64 ((fi + 1 : Nat) : Int))).heap[pb]? = some (.cells #[.int .i64 (p.lo : Int), .int .i64 (p.hi : Int), .bool p.begun] 72 (0, 0))) := Lib.hid (fun W hW => by
                have h1 := HI3.out.below hW
                have h2 := (h1.putFirst at_ a hatn).1
                have t := touch_two16 (bo := bo) (b := b) (wr := W) at_ 7 (.int .i64 (a : Int)) (.int .i64 ((fi + 1 : Nat) : Int))
                have hz := hW.size
                refine ⟨by rw [HFI.out] at h2; exact h2, ?_, ?_, ?_⟩
                · exact (HB3.out.trans (hW.mono (Nat.le_trans hb HB3.out.size))).trans (t.below (Nat.le_trans (Nat.le_trans hb HB3.out.size) hz) (fun x hx => by
                    obtain ⟨b1, b2, _⟩ := HI3.out.base
                    rcases hx with e | e
                    · omega
                    · omega))
                · intro x hx
                  obtain ⟨k1, k2, k3, _⟩ := HI3.out.kap x hx
                  rw [t.block x (by omega) (fun e => by
                    rcases e with e | e
                    · exact k3 e
                    · exact k2 e), hW.block x k1]
                  exact HK3.out x hx
                · rw [t.block pb (by have := (Array.getElem?_eq_some_iff.1 HG3.out).1; omega) (fun e => by
                    have h5 := HBL.out
                    have h6 := HPB.out
                    rcases e with e | e
                    · omega
                    · omega), hW.block pb (Array.getElem?_eq_some_iff.1 HG3.out).1]
                  exact HG3.out)
              go_wp2_with fail
              obtain ⟨w4, hw4⟩ : ∃ w4, w4 = (w3.drewN na).drewN nq := ⟨_, rfl⟩
              rw [← hw4]
              have BW4 : Hid (Below w3.heap.size w3 (w4.drewN 1)) := Lib.hid (by rw [hw4]; exact ⟨rfl, rfl, rfl, Nat.le_refl _, fun _ _ => rfl⟩)
              have e0 : w4.cell? ⟨b, 0, none⟩ = some (.slice (some ⟨bo, 0, none⟩) n n) := by rw [hw4]; exact d0
              have e7 : w4.cell? ⟨b, 7, none⟩ = some (.int .i64 (fi : Int)) := by rw [hw4]; exact d7
              have e8 : w4.cell? ⟨b, 8, none⟩ = some (.int .i64 (se : Int)) := by rw [hw4]; exact d8
              have c4 := (show w4.cell? ⟨ba, fi, none⟩ = some (.int .i64 (a : Int)) from by rw [hw4]; exact ca)
              have eo : w4.cell? ⟨bo, at_, none⟩ = some (.int .i64 ((toI S'.ord).getD at_ 0)) := by rw [hw4]; exact co
              have fo4 : w4.frozen? ⟨bo, at_, none⟩ = false := by rw [hw4]; exact fo
              have f74 : w4.frozen? ⟨b, 7, none⟩ = false := by rw [hw4]; exact f7
              have f84 : w4.frozen? ⟨b, 8, none⟩ = false := by rw [hw4]; exact f8
              clear hw4 d0 d2 d4 d7 d8 co fo f7 f8 g0
              go_still_tail 13, (by kernel_rfl)
              change wpList _ _ _ _ _ (w4.drewN 1)
              go_wp2_with fail
              go_roundw
              case rel => exact ⟨j + 1, { S' with ord := S'.ord.set at_ a, first := fi + 1 }, by go_num, by omega, by have := HSUM.out; have := HTOT.out; omega, ⟨(HTL.out _ BW4.out).1, by rw [show R - (j + 1) = R - j - 1 by omega]; exact HM.out.2, ⟨HSM.out.cls, HSM.out.asd, HSM.out.reach, HSM.out.ps, HSM.out.laid, HSM.out.made, HSM.out.steps⟩, by have := HSUM.out; show fi + 1 + S'.second = _; rw [HSE.out]; omega, by have := HM.out.1; omega, (HTL.out _ BW4.out).2.1, (HTL.out _ BW4.out).2.2.1⟩, (HTL.out _ BW4.out).2.2.2⟩
              case measure => simp [intOf]; omega
            · have hkki : ¬ (K a : Int) ≤ (K c : Int) := by omega
              have hkkd : decide (K a ≤ K c) = false := by simp only [decide_eq_false_iff_not]; exact hkk
              go_wp2_with fail
              go_quiet ((exact quiet_more (HCC.out _ _ (by assumption))))
              have HM := Lib.hid (HS.out.second HBG.out (by rw [HSM.out.laid]; exact (HLD.out (by omega))) (by rw [HSE.out, hx2]; omega) (Or.inr (by rw [HFI.out, HSE.out, HAE.out, HCE.out]; exact hkk)) (S' := { S' with ord := S'.ord.set at_ c, second := se + 1 }) rfl ⟨rfl, rfl, by rw [HSE.out]⟩ rfl rfl (by rw [HFI.out, HSE.out, HATE.out]; rw [HCE.out]) rfl)
              have HTL : Hid (∀ W, Below w3.heap.size w3 W → IsSo B ((W.setCell ⟨bo, at_, none⟩ (.int .i64 (c : Int))).setCell ⟨b, 8, none⟩ (.int .i64 ((se + 1 : Nat) : Int))) b bo bc ba (.func (.func F) #[] caps) vw n kb { S' with ord := S'.ord.set at_ c, second := se + 1 } ∧ Below B w ((W.setCell ⟨bo, at_, none⟩ (.int .i64 (c : Int))).setCell ⟨b, 8, none⟩ (.int .i64 ((se + 1 : Nat) : Int))) ∧ KbSame w ((W.setCell ⟨bo, at_, none⟩ (.int .i64 (c : Int))).setCell ⟨b, 8, none⟩ (.int .i64 ((se + 1 : Nat) : Int))) kb ∧
                  ((W.setCell ⟨bo, at_, none⟩ (.int .i64 (c : Int))).setCell ⟨b, 8, none⟩ (.int .i64 ((se + 1 : Nat) : Int))).heap[pb]? = some (.cells #[.int .i64 (p.lo : Int), .int .i64 (p.hi : Int), .bool p.begun] 72 (0, 0))) := Lib.hid (fun W hW => by
                have h1 := HI3.out.below hW
                have h2 := (h1.putSecond at_ c hatn).1
                have t := touch_two16 (bo := bo) (b := b) (wr := W) at_ 8 (.int .i64 (c : Int)) (.int .i64 ((se + 1 : Nat) : Int))
                have hz := hW.size
                refine ⟨by rw [HSE.out] at h2; exact h2, ?_, ?_, ?_⟩
                · exact (HB3.out.trans (hW.mono (Nat.le_trans hb HB3.out.size))).trans (t.below (Nat.le_trans (Nat.le_trans hb HB3.out.size) hz) (fun x hx => by
                    obtain ⟨b1, b2, _⟩ := HI3.out.base
                    rcases hx with e | e
                    · omega
                    · omega))
                · intro x hx
                  obtain ⟨k1, k2, k3, _⟩ := HI3.out.kap x hx
                  rw [t.block x (by omega) (fun e => by
                    rcases e with e | e
                    · exact k3 e
                    · exact k2 e), hW.block x k1]
                  exact HK3.out x hx
                · rw [t.block pb (by have := (Array.getElem?_eq_some_iff.1 HG3.out).1; omega) (fun e => by
                    have h5 := HBL.out
                    have h6 := HPB.out
                    rcases e with e | e
                    · omega
                    · omega), hW.block pb (Array.getElem?_eq_some_iff.1 HG3.out).1]
                  exact HG3.out)
              go_wp2_with fail
              obtain ⟨w4, hw4⟩ : ∃ w4, w4 = (w3.drewN na).drewN nq := ⟨_, rfl⟩
              rw [← hw4]
              have BW4 : Hid (Below w3.heap.size w3 (w4.drewN 1)) := Lib.hid (by rw [hw4]; exact ⟨rfl, rfl, rfl, Nat.le_refl _, fun _ _ => rfl⟩)
              have e0 : w4.cell? ⟨b, 0, none⟩ = some (.slice (some ⟨bo, 0, none⟩) n n) := by rw [hw4]; exact d0
              have e7 : w4.cell? ⟨b, 7, none⟩ = some (.int .i64 (fi : Int)) := by rw [hw4]; exact d7
              have e8 : w4.cell? ⟨b, 8, none⟩ = some (.int .i64 (se : Int)) := by rw [hw4]; exact d8
              have c4 := (show w4.cell? ⟨bo, p.mid + se, none⟩ = some (.int .i64 (c : Int)) from by rw [hw4]; exact cc)
              have eo : w4.cell? ⟨bo, at_, none⟩ = some (.int .i64 ((toI S'.ord).getD at_ 0)) := by rw [hw4]; exact co
              have fo4 : w4.frozen? ⟨bo, at_, none⟩ = false := by rw [hw4]; exact fo
              have f74 : w4.frozen? ⟨b, 7, none⟩ = false := by rw [hw4]; exact f7
              have f84 : w4.frozen? ⟨b, 8, none⟩ = false := by rw [hw4]; exact f8
              clear hw4 d0 d2 d4 d7 d8 co fo f7 f8 g0
              go_still_tail 13, (by kernel_rfl)
              change wpList _ _ _ _ _ (w4.drewN 1)
              go_wp2_with fail
              go_roundw
              case rel => exact ⟨j + 1, { S' with ord := S'.ord.set at_ c, second := se + 1 }, by go_num, by omega, by have := HSUM.out; have := HTOT.out; omega, ⟨(HTL.out _ BW4.out).1, by rw [show R - (j + 1) = R - j - 1 by omega]; exact HM.out.2, ⟨HSM.out.cls, HSM.out.asd, HSM.out.reach, HSM.out.ps, HSM.out.laid, HSM.out.made, HSM.out.steps⟩, by have := HSUM.out; show S'.first + (se + 1) = _; rw [HFI.out]; omega, by have := HM.out.1; omega, (HTL.out _ BW4.out).2.1, (HTL.out _ BW4.out).2.2.1⟩, (HTL.out _ BW4.out).2.2.2⟩
              case measure => simp [intOf]; omega
          · have hfxd : decide (fi < x1) = false := by simp only [decide_eq_false_iff_not]; exact hfx
            have hfe : fi = x1 := by omega
            go_wp2_with fail
            go_quiet (fail)
            have HM := Lib.hid (HS.out.second HBG.out (by rw [HSM.out.laid]; exact (HLD.out (by omega))) (by rw [HSE.out, hx2]; omega) (Or.inl (by rw [HFI.out, hx1, hfe])) (S' := { S' with ord := S'.ord.set at_ c, second := se + 1 }) rfl ⟨rfl, rfl, by rw [HSE.out]⟩ rfl rfl (by rw [HFI.out, HSE.out, HATE.out]; rw [HCE.out]) rfl)
            have HTL : Hid (∀ W, Below w3.heap.size w3 W → IsSo B ((W.setCell ⟨bo, at_, none⟩ (.int .i64 (c : Int))).setCell ⟨b, 8, none⟩ (.int .i64 ((se + 1 : Nat) : Int))) b bo bc ba (.func (.func F) #[] caps) vw n kb { S' with ord := S'.ord.set at_ c, second := se + 1 } ∧ Below B w ((W.setCell ⟨bo, at_, none⟩ (.int .i64 (c : Int))).setCell ⟨b, 8, none⟩ (.int .i64 ((se + 1 : Nat) : Int))) ∧ KbSame w ((W.setCell ⟨bo, at_, none⟩ (.int .i64 (c : Int))).setCell ⟨b, 8, none⟩ (.int .i64 ((se + 1 : Nat) : Int))) kb ∧
                ((W.setCell ⟨bo, at_, none⟩ (.int .i64 (c : Int))).setCell ⟨b, 8, none⟩ (.int .i64 ((se + 1 : Nat) : Int))).heap[pb]? = some (.cells #[.int .i64 (p.lo : Int), .int .i64 (p.hi : Int), .bool p.begun] 72 (0, 0))) := Lib.hid (fun W hW => by
              have h1 := HI3.out.below hW
              have h2 := (h1.putSecond at_ c hatn).1
              have t := touch_two16 (bo := bo) (b := b) (wr := W) at_ 8 (.int .i64 (c : Int)) (.int .i64 ((se + 1 : Nat) : Int))
              have hz := hW.size
              refine ⟨by rw [HSE.out] at h2; exact h2, ?_, ?_, ?_⟩
              · exact (HB3.out.trans (hW.mono (Nat.le_trans hb HB3.out.size))).trans (t.below (Nat.le_trans (Nat.le_trans hb HB3.out.size) hz) (fun x hx => by
                  obtain ⟨b1, b2, _⟩ := HI3.out.base
                  rcases hx with e | e
                  · omega
                  · omega))
              · intro x hx
                obtain ⟨k1, k2, k3, _⟩ := HI3.out.kap x hx
                rw [t.block x (by omega) (fun e => by
                  rcases e with e | e
                  · exact k3 e
                  · exact k2 e), hW.block x k1]
                exact HK3.out x hx
              · rw [t.block pb (by have := (Array.getElem?_eq_some_iff.1 HG3.out).1; omega) (fun e => by
                  have h5 := HBL.out
                  have h6 := HPB.out
                  rcases e with e | e
                  · omega
                  · omega), hW.block pb (Array.getElem?_eq_some_iff.1 HG3.out).1]
                exact HG3.out)
            go_wp2_with fail
            obtain ⟨w4, hw4⟩ : ∃ w4, w4 = (w3.drewN na).drewN nq := ⟨_, rfl⟩
            rw [← hw4]
            have BW4 : Hid (Below w3.heap.size w3 (w4.drewN 1)) := Lib.hid (by rw [hw4]; exact ⟨rfl, rfl, rfl, Nat.le_refl _, fun _ _ => rfl⟩)
            have e0 : w4.cell? ⟨b, 0, none⟩ = some (.slice (some ⟨bo, 0, none⟩) n n) := by rw [hw4]; exact d0
            have e7 : w4.cell? ⟨b, 7, none⟩ = some (.int .i64 (fi : Int)) := by rw [hw4]; exact d7
            have e8 : w4.cell? ⟨b, 8, none⟩ = some (.int .i64 (se : Int)) := by rw [hw4]; exact d8
            have c4 := (show w4.cell? ⟨bo, p.mid + se, none⟩ = some (.int .i64 (c : Int)) from by rw [hw4]; exact cc)
            have eo : w4.cell? ⟨bo, at_, none⟩ = some (.int .i64 ((toI S'.ord).getD at_ 0)) := by rw [hw4]; exact co
            have fo4 : w4.frozen? ⟨bo, at_, none⟩ = false := by rw [hw4]; exact fo
            have f74 : w4.frozen? ⟨b, 7, none⟩ = false := by rw [hw4]; exact f7
            have f84 : w4.frozen? ⟨b, 8, none⟩ = false := by rw [hw4]; exact f8
            clear hw4 d0 d2 d4 d7 d8 co fo f7 f8 g0
            go_still_tail 13, (by kernel_rfl)
            change wpList _ _ _ _ _ (w4.drewN 1)
            go_wp2_with fail
            go_roundw
            case rel => exact ⟨j + 1, { S' with ord := S'.ord.set at_ c, second := se + 1 }, by go_num, by omega, by have := HSUM.out; have := HTOT.out; omega, ⟨(HTL.out _ BW4.out).1, by rw [show R - (j + 1) = R - j - 1 by omega]; exact HM.out.2, ⟨HSM.out.cls, HSM.out.asd, HSM.out.reach, HSM.out.ps, HSM.out.laid, HSM.out.made, HSM.out.steps⟩, by have := HSUM.out; show S'.first + (se + 1) = _; rw [HFI.out]; omega, by have := HM.out.1; omega, (HTL.out _ BW4.out).2.1, (HTL.out _ BW4.out).2.2.1⟩, (HTL.out _ BW4.out).2.2.2⟩
            case measure => simp [intOf]; omega
      · have hfld : decide (fs < sz) = false := by simp only [decide_eq_false_iff_not]; exact hfl
        go_wp2_with fail
        refine wp_region_beneath wr.heap.size wr (Below.refl _ _) (by kernel_rfl) (by kernel_rfl) ?_
        repeat (go_big_quiet_step (first
          | (go_at_call 60; rename_i sb; exact Calls.beneath sb (Nat.le_refl _) (HSIZ.out _))))
        refine wpQuiet_nil ?_
        rintro _ ⟨sb, rfl⟩
        have HR3 : Hid (PutP B w sb.val b bo bc ba n (.func (.func F) #[] caps) vw kb T K S ps p A m R (min k tot) (.returned (.int .i64 (j : Int)))) := Lib.hid (by
          have e : min k tot = j := by have := HTOT.out; have := HSUM.out; omega
          rw [e]
          exact ⟨rfl, S', HI.out.below sb.is, HS.out, HSM.out, by rw [HFI.out, HSE.out]; exact HSUM.out, hjR, HB.out.trans (sb.is.mono (Nat.le_trans hb HB.out.size)), HKS.out.trans (fun x hx => sb.is.block x (HI.out.kap x hx).1)⟩)
        clear q4 q5 p0 p1 p2 HI HB HG HKS
        generalize sb.val = w3 at *
        go_wp2_with fail
        go_ret
        exact HR3.out
    · have hjid : decide (j < k) = false := by simp only [decide_eq_false_iff_not]; exact hjl
      have HR3 : Hid (∀ W, Below wr.heap.size wr W → PutP B w W b bo bc ba n (.func (.func F) #[] caps) vw kb T K S ps p A m R (min k tot) (.returned (.int .i64 (j : Int)))) := Lib.hid (fun W hW => by
        have e : min k tot = j := by omega
        rw [e]
        exact ⟨rfl, S', HI.out.below hW, HS.out, HSM.out, by rw [HFI.out, HSE.out]; exact HSUM.out, hjR, HB.out.trans (hW.mono (Nat.le_trans hb HB.out.size)), HKS.out.trans (fun x hx => hW.block x (HI.out.kap x hx).1)⟩)
      go_wp2_with fail
      go_quiet (fail)
      go_wp2_with fail
      go_ret
      exact HR3.out _ ⟨rfl, rfl, rfl, Nat.le_refl _, fun _ _ => rfl⟩
end
end Go.Proofs.Ytfedhppcmmponaa

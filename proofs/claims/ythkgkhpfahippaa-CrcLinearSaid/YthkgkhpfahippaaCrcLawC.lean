/-
  LAYER 2's STATEMENTS (three texts, added).
-/
import Derived.Test.YthkgkhpfahippaaCrcLaw
import Derived.Deep.RegionLaw
namespace Go.Proofs.Ythkgkhpfahippaa
open Go.ChangeShapes Go.WideShapes Go.ChangeAt Go.RowKit CrcM
set_option linter.unusedVariables false

/-- Three rows of bytes, each three put together by exclusive or. -/
def x3 : List UInt8 → List UInt8 → List UInt8 → List UInt8
  | a :: la1, b :: lb1, c :: lc1 => (a ^^^ b ^^^ c) :: x3 la1 lb1 lc1
  | _, _, _ => []
theorem ofNat_xor32 (x y : Nat) : BitVec.ofNat 32 (x ^^^ y) = BitVec.ofNat 32 x ^^^ BitVec.ofNat 32 y := by
  apply BitVec.eq_of_getLsbD_eq
  intro i hi
  simp only [BitVec.getLsbD_xor, BitVec.getLsbD_ofNat, Nat.testBit_xor, hi, decide_true, Bool.true_and]
theorem up_xor (x y : Nat) : up (x ^^^ y) = up x ^^^ up y := by
  unfold up; rw [ofNat_xor32, BitVec.shiftLeft_xor_distrib]
theorem xor4 (a b c d : BitVec 32) : a ^^^ b ^^^ (c ^^^ d) = (a ^^^ c) ^^^ (b ^^^ d) := by ac_rfl
theorem nx_xor (s t : BitVec 32) (a b : UInt8) : nx (s ^^^ t) (a ^^^ b) = nx s a ^^^ nx t b := by
  unfold nx
  rw [UInt8.toNat_xor, up_xor, xor4, it_xor]
theorem run_lin : ∀ (a b c : List UInt8) (s t u : BitVec 32), a.length = b.length → b.length = c.length → run (s ^^^ t ^^^ u) (x3 a b c) = run s a ^^^ run t b ^^^ run u c
  | [], [], [], _, _, _, _, _ => rfl
  | a :: la1, b :: lb1, c :: lc1, s, t, u, h1, h2 => by
    show run (nx (s ^^^ t ^^^ u) (a ^^^ b ^^^ c)) (x3 la1 lb1 lc1) = run (nx s a) la1 ^^^ run (nx t b) lb1 ^^^ run (nx u c) lc1
    rw [nx_xor, nx_xor]
    exact run_lin la1 lb1 lc1 _ _ _ (by simpa using h1) (by simpa using h2)
theorem crc_lin (a b c : List UInt8) (h1 : a.length = b.length) (h2 : b.length = c.length) : crc a ^^^ crc b ^^^ crc c = crc (x3 a b c) := by
  unfold crc
  have h := run_lin a b c (ng 0#32) (ng 0#32) (ng 0#32) h1 h2
  have e : ng 0#32 ^^^ ng 0#32 ^^^ ng 0#32 = ng 0#32 := by decide
  rw [e] at h
  rw [h]
  unfold ng
  apply BitVec.eq_of_getLsbD_eq
  intro i hi
  simp only [BitVec.getLsbD_xor, BitVec.getLsbD_not, hi, decide_true, Bool.true_and]
  cases (run (~~~0#32) a).getLsbD i <;> cases (run (~~~0#32) b).getLsbD i <;> cases (run (~~~0#32) c).getLsbD i <;> rfl
theorem x3_snoc : ∀ (a b c : List UInt8) (x y z : UInt8), a.length = b.length → b.length = c.length → x3 (a ++ [x]) (b ++ [y]) (c ++ [z]) = x3 a b c ++ [x ^^^ y ^^^ z]
  | [], [], [], _, _, _, _, _ => rfl
  | a :: la1, b :: lb1, c :: lc1, x, y, z, h1, h2 => by
    show (a ^^^ b ^^^ c) :: x3 (la1 ++ [x]) (lb1 ++ [y]) (lc1 ++ [z]) = (a ^^^ b ^^^ c) :: (x3 la1 lb1 lc1 ++ [x ^^^ y ^^^ z])
    rw [x3_snoc la1 lb1 lc1 x y z (by simpa using h1) (by simpa using h2)]
theorem x3_length : ∀ (a b c : List UInt8), a.length = b.length → b.length = c.length → (x3 a b c).length = a.length
  | [], [], [], _, _ => rfl
  | a :: la1, b :: lb1, c :: lc1, h1, h2 => by
    show (x3 la1 lb1 lc1).length + 1 = la1.length + 1
    rw [x3_length la1 lb1 lc1 (by simpa using h1) (by simpa using h2)]
theorem x3_take (a b c : ByteArray) (k : Nat) (ha : k < a.size) (hb : k < b.size) (hc : k < c.size) :
    x3 (a.data.toList.take (k + 1)) (b.data.toList.take (k + 1)) (c.data.toList.take (k + 1)) = x3 (a.data.toList.take k) (b.data.toList.take k) (c.data.toList.take k) ++ [a[k] ^^^ b[k] ^^^ c[k]] := by
  rw [take_snoc a k ha, take_snoc b k hb, take_snoc c k hc]
  have la : a.data.toList.length = a.size := rfl
  have lb : b.data.toList.length = b.size := rfl
  have lc : c.data.toList.length = c.size := rfl
  exact x3_snoc _ _ _ _ _ _ (by simp only [List.length_take]; omega) (by simp only [List.length_take]; omega)
theorem xor3_code (x y z : UInt8) : bits BinOp.xor IntKind.u8 (bits BinOp.xor IntKind.u8 (x.toNat : Int) (y.toNat : Int)) (z.toNat : Int) = ((x ^^^ y ^^^ z).toNat : Int) := by
  have hx := x.toNat_lt
  have hy := y.toNat_lt
  have hz := z.toNat_lt
  rw [u8_xor_nat _ _ (by omega) (by omega), u8_xor_nat _ _ (Nat.xor_lt_two_pow (n := 8) (by omega) (by omega)) (by omega)]
  simp [UInt8.toNat_xor]
theorem step_append_own {P : Program} {ops : Array Oper} {o : Oper} {a : Act} {w : World} {K : Act → World → Prop} {Q : Exit → Act → World → Prop} {E : Prop} (hg : o.guard = none) (s x : Operand) (t : TypeId)
    (ho : o.op = .call { callee := .builtin .append, args := #[s, x], argTypes := #[t, t] })
    (base : Nat) (e : TypeId) (i : TypeInfo) (z : Value) (size bytes : Nat) (ht : P.underlying t = some (.slice e)) (hi : P.info? e = some i) (hz : i.zero = some z)
    (hsize : i.size = size) (hby : i.bytes = bytes) (hzs : z.cells.size = size) (hsz : 0 < size)
    (v : Value) (n : Nat) (xs : List Value) (hs : a.eval s = v) (hown : w.ownsRow base e size v n xs)
    (ad : Addr) (m c : Nat) (news : List Value) (hx : a.eval x = .slice (some ad) m c) (hl : news.length = m * size) (hnews : ∀ j u, news[j]? = some u → w.cell? (ad.add j) = some u) (h1 : ∀ u ∈ news, u.oneCell' = true)
    (h63 : n + m ≤ maxLen) (hbytes : (n + m) * bytes ≤ 140737488355328) (hbase : base ≤ w.heap.size)
    (h : ∀ v' w', w'.ownsRow base e size v' (n + m) (xs ++ news) → w.grownBy w' v.ownBlock → K (a.put o.dst v') w') :
    if Region.wanted o (yielded ops a.tmps) = true then Oper.wp P o a w K Q else E := by
  have hw : Region.wanted o (yielded ops a.tmps) = true := by simp [Region.wanted, hg]
  rw [if_pos hw]
  exact wp_append_own w s x t ho base e i z size bytes ht hi hz hsize hby hzs hsz v n xs hs hown ad m c news hx hl hnews h1 h63 hbytes hbase fun v' w' h2 h3 _ => h v' w' h2 h3
def u8v (x : UInt8) : Value := .int .u8 (x.toNat : Int)
theorem info5 : (Try.prog.info? 5).map (fun i => (i.zero, i.size, i.bytes)) = some (some (.int .u8 0), 1, 1) := by kernel_rfl

/-- 'string(x)', x a row of bytes of the call's own. -/
theorem conv_own {w W : World} {base : Nat} {v : Value} {n : Nat} {l : List UInt8} (h : w.ownsRow base 5 1 v n (l.map u8v)) (hB : Below w.heap.size w W) :
    (convert 72 9 v).run Try.prog W = .ok (.string ⟨l.toArray⟩) W := by
  have hl : l.length = n := by simpa using h.1
  rcases h.2 with ⟨rfl, rfl⟩ | ⟨g, cap, cur, rfl, _, hg, _⟩
  · obtain rfl : l = [] := List.eq_nil_of_length_eq_zero hl
    exact run_convert_bytes_nil W 72 5 Try.underlying72 Try.underlying5 0 0 9 Try.underlying9
  · subst hl
    refine run_convert_bytes_back W 72 9 5 ⟨g, 0, none⟩ cap l Try.underlying72 Try.underlying5 Try.underlying9 (fun j hj => ?_)
    rw [Addr.add_lit, hB.cell (p := ⟨g, 0 + j, none⟩) (Array.getElem?_eq_some_iff.1 hg).1, Nat.zero_add, h.cellAt j (by omega)]
    simp [hj, u8v]
set_option maxHeartbeats 1000000 in
theorem crcLinear.walk (a : ByteArray) (b : ByteArray) (c : ByteArray) (w : World) (w0 : a.size ≤ maxLen) (w1 : b.size ≤ maxLen) (w2 : c.size ≤ maxLen) :
    Calls Try.prog 12 #[.string a, .string b, .string c] w fun e w' => e = .returned (.bool true) ∧ Below w.heap.size w w' := by
  unfold maxLen at w0 w1 w2
  obtain ⟨n, hn⟩ : ∃ n : Nat, n = min (min (min a.size b.size) c.size) 500 := ⟨_, rfl⟩
  have hmin : ∀ wx : World, (Builtin.min_ #[3, 3, 3, 3] 3 #[.int .i64 (a.size : Int), .int .i64 (b.size : Int), .int .i64 (c.size : Int), .int .i64 500]).run Try.prog wx = .ok (.int .i64 (n : Int)) wx := fun wx => by
    simp [Builtin.min_, Builtin.min2]
    split <;> split <;> (try split) <;> omega
  have hna : n ≤ a.size := by omega
  have hnb : n ≤ b.size := by omega
  have hnc : n ≤ c.size := by omega
  have hn5 : n ≤ 500 := by omega
  clear hn
  obtain ⟨i0, hi, hz0, hz1, hz2⟩ := info_parts info5
  have HI := Lib.hid hi
  have HZ0 := Lib.hid hz0
  have HZ1 := Lib.hid hz1
  have HZ2 := Lib.hid hz2
  clear hi hz0 hz1 hz2
  go_enter Try.func12, Try.ntmps12
  go_wp2_with fail
  go_loopw [8, 9, 18] (fun o _ i wr => ∃ k : Nat, k ≤ n ∧ i = .int .i64 k ∧ wr.ownsRow w.heap.size 5 1 o k ((x3 (a.data.toList.take k) (b.data.toList.take k) (c.data.toList.take k)).map u8v) ∧ Below w.heap.size w wr) (fun _ _ i _ => n - (intOf i).toNat)
  case atStart => exact ⟨0, by omega, rfl, World.ownsRow_nil _ _ _ _, Below.refl _ _⟩
  case round =>
    obtain ⟨k, hk, rfl, hO, hB⟩ := hrel
    have HO := Lib.hid hO
    have HB := Lib.hid hB
    clear hO hB
    by_cases hlt : k < n
    · have hka : k < a.size := by omega
      have hkb : k < b.size := by omega
      have hkc : k < c.size := by omega
      have HX := xor3_code a[k] b[k] c[k]
      have HT := Lib.hid (x3_take a b c k hka hkb hkc)
      go_wp2_with fail
      have hsz1 : w.heap.size ≤ (wr.alloc (.cells #[.int .u8 ((a[k].toNat ^^^ b[k].toNat ^^^ c[k].toNat : Nat) : Int)] 5)).drew.heap.size := by have := HB.out.size; simp; omega
      have HSZ := Lib.hid hsz1
      clear hsz1
      go_region_law ((refine step_append_own rfl _ _ 72 rfl w.heap.size 5 i0 (.int .u8 0) 1 1 Try.underlying72 HI.out HZ0.out HZ1.out HZ2.out rfl (by decide) _ _ _ rfl ((HO.out.alloc _).drew) ⟨wr.heap.size, 0, none⟩ 1 1 [.int .u8 ((a[k].toNat ^^^ b[k].toNat ^^^ c[k].toNat : Nat) : Int)] rfl rfl (cell_one_new _ _ _) (by intro u hu; simp at hu; subst hu; rfl) (by unfold maxLen; omega) (by omega) HSZ.out ?_; intro v' w1 hown' hgrow))
      all_goals
        have HO' := Lib.hid hown'
        have HG' := Lib.hid hgrow
        clear hown' hgrow
        go_wp2_with fail
        go_roundw
        case rel =>
          refine ⟨k + 1, by omega, by go_num, ?_, ?_⟩
          · have h := HO'.out
            rw [HT.out, List.map_append]
            simpa [u8v, UInt8.toNat_xor] using h
          · exact ((HB.out.alloc HB.out.size _).drew).grown HG'.out HSZ.out (fun j hj => (HO.out.lt j hj).1)
        case measure => simp [intOf]; omega
    · obtain rfl : k = n := by omega
      have hlin := crc_lin (a.data.toList.take k) (b.data.toList.take k) (c.data.toList.take k) (by simp; omega) (by simp; omega)
      have heq : (bits BinOp.xor IntKind.u32 (bits BinOp.xor IntKind.u32 ((crc (a.data.toList.take k)).toNat : Int) ((crc (b.data.toList.take k)).toNat : Int)) ((crc (c.data.toList.take k)).toNat : Int)
          == ((crc (x3 (a.data.toList.take k) (b.data.toList.take k) (c.data.toList.take k))).toNat : Int)) = true := by
        rw [bits_xor, bits_xor, hlin]; simp
      have sa : (a.extract 0 k).size ≤ maxLen := by simp [maxLen]; omega
      have sb : (b.extract 0 k).size ≤ maxLen := by simp [maxLen]; omega
      have sc : (c.extract 0 k).size ≤ maxLen := by simp [maxLen]; omega
      have sx : (⟨(x3 (a.data.toList.take k) (b.data.toList.take k) (c.data.toList.take k)).toArray⟩ : ByteArray).size ≤ maxLen := by
        show (x3 _ _ _).toArray.size ≤ _
        rw [List.size_toArray, x3_length _ _ _ (by simp; omega) (by simp; omega)]; simp [maxLen]; omega
      have SA := Lib.hid sa
      have SB := Lib.hid sb
      have SC := Lib.hid sc
      have SX := Lib.hid sx
      have hconv : ∀ s : Beneath wr.heap.size wr, (convert 72 9 u8).run Try.prog s.val = .ok (.string ⟨(x3 (a.data.toList.take k) (b.data.toList.take k) (c.data.toList.take k)).toArray⟩) s.val := fun s => conv_own HO.out s.is
      generalize x3 (a.data.toList.take k) (b.data.toList.take k) (c.data.toList.take k) = xx at *
      clear hlin sa sb sc sx
      go_wp2_with fail
      refine wp_region_beneath wr.heap.size wr (Below.refl _ _) (by kernel_rfl) (by kernel_rfl) ?_
      repeat (go_big_quiet_step (first
        | (go_at_call_of 44 (a.extract 0 k); rename_i s; exact Calls.beneath s (Nat.le_refl _) (of_any _ _ SA.out))
        | (go_at_call_of 44 (b.extract 0 k); rename_i s; exact Calls.beneath s (Nat.le_refl _) (of_any _ _ SB.out))
        | (go_at_call_of 44 (c.extract 0 k); rename_i s; exact Calls.beneath s (Nat.le_refl _) (of_any _ _ SC.out))
        | (go_at_call 44; rename_i s; exact Calls.beneath s (Nat.le_refl _) (of_any _ _ SX.out))
        | (go_at_call 43; rename_i s; exact Calls.beneath s (Nat.le_refl _) (nine_any _))))
      refine wpQuiet_nil ?_
      rintro _ ⟨s, rfl⟩
      go_wp2_with fail
      go_ret
      exact ⟨rfl, HB.out.trans (s.is.mono HB.out.size)⟩
end Go.Proofs.Ythkgkhpfahippaa

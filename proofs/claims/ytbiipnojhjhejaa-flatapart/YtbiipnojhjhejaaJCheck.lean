/- Bits of rights: whether a right is among those of a set, by its bit; what joining and taking away does to it. No program is named. -/
import Derived.WalkKit
import Derived.Laws.BitsLemmas
import Derived.Test.YtbiipnojhjhejaaRows
import Derived.Deep.Strs
import Derived.Lib.SmallJoins
import Derived.OpenShut
import Derived.SizedLaws
import Derived.Test.YtbiipnojhjhejaaKit
import Derived.WalkLawsBesides
import Derived.WalkSpells
import Derived.Below
import Derived.Test.YtbiipnojhjhejaaCalm
import Derived.Test.YtbiipnojhjhejaaInts
namespace Go.Proofs.Ytbiipnojhjhejaa
set_option maxRecDepth 100000
open Go.RowKit

/-- Whether a right is among those of a set. -/
def hs (s r : Int) : Bool := decide (bits .and .i64 s r ≠ 0)

/-- One of the three ways. -/
def way3 (y : Int) : Prop := y = 1 ∨ y = 2 ∨ y = 4

theorem wrap_nat (n : Nat) (h : n < 18446744073709551616) : IntKind.i64.wrap (n : Int) = 0 ↔ n = 0 := by
  rw [IntKind.wrap_i64]
  omega

theorem ofInt_wrap (x : BitVec 64) : BitVec.ofInt 64 (IntKind.i64.wrap (x.toNat : Int)) = x := by
  apply BitVec.eq_of_toNat_eq
  rw [BitVec.toNat_ofInt, IntKind.wrap_i64]
  have := x.isLt
  omega

theorem and_def (a b : Int) : bits .and .i64 a b = IntKind.i64.wrap ((BitVec.ofInt 64 a &&& BitVec.ofInt 64 b).toNat : Nat) := rfl
theorem or_def (a b : Int) : bits .or .i64 a b = IntKind.i64.wrap ((BitVec.ofInt 64 a ||| BitVec.ofInt 64 b).toNat : Nat) := rfl
theorem andNot_def (a b : Int) : bits .andNot .i64 a b = IntKind.i64.wrap ((BitVec.ofInt 64 a &&& ~~~ (BitVec.ofInt 64 b)).toNat : Nat) := rfl

theorem hs_pow (s r : Int) (j : Nat) (hj : j < 64) (hr : BitVec.ofInt 64 r = BitVec.twoPow 64 j) : hs s r = (BitVec.ofInt 64 s).getLsbD j := by
  unfold hs
  rw [and_def, hr, BitVec.and_twoPow]
  cases h : (BitVec.ofInt 64 s).getLsbD j
  · simp [IntKind.wrap_i64]
  · simp only [if_true, ne_eq, decide_eq_true_eq]
    rw [wrap_nat _ (BitVec.isLt _), BitVec.toNat_twoPow_of_lt hj]
    exact Nat.ne_of_gt (Nat.two_pow_pos j)

theorem hs_way {y : Int} (hy : way3 y) : ∃ j, j < 64 ∧ BitVec.ofInt 64 y = BitVec.twoPow 64 j := by
  rcases hy with rfl | rfl | rfl
  · exact ⟨0, by decide, by decide⟩
  · exact ⟨1, by decide, by decide⟩
  · exact ⟨2, by decide, by decide⟩

theorem hs_or {s y : Int} (m : Int) (hy : way3 y) (h : hs s y = true) : hs (bits .or .i64 s m) y = true := by
  obtain ⟨j, hj, hr⟩ := hs_way hy
  rw [hs_pow _ _ j hj hr] at h ⊢
  rw [or_def, ofInt_wrap, BitVec.getLsbD_or, h]
  rfl

theorem hs_less {s y : Int} (m : Int) (hy : way3 y) (h : hs s y = false) : hs (bits .andNot .i64 s m) y = false := by
  obtain ⟨j, hj, hr⟩ := hs_way hy
  rw [hs_pow _ _ j hj hr] at h ⊢
  rw [andNot_def, ofInt_wrap, BitVec.getLsbD_and, h]
  rfl

/-- The same by division: the number as one without a sign. -/
theorem hs_div (s r : Int) (j : Nat) (hj : j < 64) (hr : BitVec.ofInt 64 r = BitVec.twoPow 64 j) : hs s r = decide ((s % 18446744073709551616) / 2 ^ j % 2 = 1) := by
  rw [hs_pow _ _ j hj hr, BitVec.getLsbD, BitVec.toNat_ofInt, Nat.testBit_eq_decide_div_mod_eq]
  apply Bool.eq_iff_iff.2
  simp only [decide_eq_true_eq]
  have h0 : 0 ≤ s % 18446744073709551616 := by omega
  obtain ⟨n, hn⟩ := Int.eq_ofNat_of_zero_le h0
  have h1 : (s % ((2 ^ 64 : Nat) : Int)).toNat = n := by
    have : ((2 ^ 64 : Nat) : Int) = 18446744073709551616 := by decide
    rw [this, hn]; rfl
  rw [h1, hn]
  norm_cast

theorem hs_1 (s : Int) : hs s 1 = decide ((s % 18446744073709551616) / 1 % 2 = 1) := hs_div s 1 0 (by decide) (by decide)
theorem hs_2 (s : Int) : hs s 2 = decide ((s % 18446744073709551616) / 2 % 2 = 1) := hs_div s 2 1 (by decide) (by decide)
theorem hs_4 (s : Int) : hs s 4 = decide ((s % 18446744073709551616) / 4 % 2 = 1) := hs_div s 4 2 (by decide) (by decide)

end Go.Proofs.Ytbiipnojhjhejaa

/- What comes in as an api.Attr reads as numbers and truths. -/
namespace Go.Proofs.Ytbiipnojhjhejaa
set_option maxRecDepth 100000
open Go.ChangeShapes Go.WideShapes Go.ChangeAt Go.RowKit Go.Deep Go.Joins
set_option linter.unusedVariables false
set_option linter.unusedSimpArgs false

theorem cells_attr : Try.prog.cellsOf 48 = 4 := by kernel_rfl
theorem cells_aint : Try.prog.cellsOf 3 = 1 := by kernel_rfl
theorem cells_abool : Try.prog.cellsOf 4 = 1 := by kernel_rfl

theorem attr_read {H : Type} {enc : TypeId × Value → H} {w : World} {base : Nat} {spare : Nat → Bool} {held : Bool} {n : Nat} {cs : List Value} {y : DataW H × List MemPlace}
    (h : DataW.trod enc Try.prog w base spare held n 48 cs = some y) : ∃ (r k : Int) (t s : Bool), cs = [.int .i64 r, .int .i64 k, .bool t, .bool s] ∧ (Lit.int .i64 r).wf = true ∧ (Lit.int .i64 k).wf = true := by
  obtain ⟨y0, y1, y2, y3, k, -, hl, h0, h1, h2, h3⟩ := trod_struct4 Try.underlying48 h
  rw [cells_attr] at hl
  match cs, hl with
  | [a, b, c, d], _ =>
    simp [cells_aint, cells_abool] at h0 h1 h2 h3
    obtain ⟨x0, e0, -, w0⟩ := DataW.trod_int Try.underlying3 h0
    obtain ⟨x1, e1, -, w1⟩ := DataW.trod_int Try.underlying3 h1
    obtain ⟨x2, e2, -⟩ := DataW.trod_bool Try.underlying4 h2
    obtain ⟨x3, e3, -⟩ := DataW.trod_bool Try.underlying4 h3
    simp only [List.cons.injEq, and_true] at e0 e1 e2 e3
    exact ⟨x0, x1, x2, x3, by rw [e0, e1, e2, e3], w0, w1⟩

theorem attr_open {H : Type} {enc : TypeId × Value → H} {w : World} {base b0 : Nat} {spare : Nat → Bool} {held : Bool} {r : Reach} {v : Value} {d : DataW H} {p : List MemPlace}
    (hv : Value.okWide Try.prog w r b0 48 v) (h : DataW.Trod enc Try.prog w base spare held 48 v d p) :
    ∃ (x y : Int) (t s : Bool), v = .agg #[.int .i64 x, .int .i64 y, .bool t, .bool s] := by
  obtain ⟨cs, rfl, hsz⟩ := okWide_struct Try.underlying48 hv
  obtain ⟨fuel, hf⟩ := h
  obtain ⟨x, y, t, s, hx, -⟩ := attr_read hf
  simp only [Value.cells] at hx
  refine ⟨x, y, t, s, ?_⟩
  congr 1
  apply Array.ext'
  rw [hx]

end Go.Proofs.Ytbiipnojhjhejaa

/- What comes in as an array of four api.Key reads as numbers and truths. -/
namespace Go.Proofs.Ytbiipnojhjhejaa
set_option maxRecDepth 100000
open Go.ChangeShapes Go.WideShapes Go.ChangeAt Go.RowKit Go.Deep Go.Joins
set_option linter.unusedVariables false
set_option linter.unusedSimpArgs false

theorem cells_key : Try.prog.cellsOf 29 = 2 := by kernel_rfl
theorem cells_keys : Try.prog.cellsOf 30 = 8 := by kernel_rfl

theorem key_read {H : Type} {enc : TypeId × Value → H} {w : World} {base : Nat} {spare : Nat → Bool} {held : Bool} {n : Nat} {cs : List Value} {y : DataW H × List MemPlace}
    (h : DataW.trod enc Try.prog w base spare held n 29 cs = some y) : ∃ (t : Bool) (d : Int), cs = [.bool t, .int .i64 d] := by
  obtain ⟨y0, y1, k, -, hl, h0, h1⟩ := trod_struct2 Try.underlying29 h
  rw [cells_key] at hl
  match cs, hl with
  | [a, b], _ =>
    simp [cells_aint, cells_abool] at h0 h1
    obtain ⟨x0, e0, -⟩ := DataW.trod_bool Try.underlying4 h0
    obtain ⟨x1, e1, -⟩ := DataW.trod_int Try.underlying3 h1
    simp only [List.cons.injEq, and_true] at e0 e1
    exact ⟨x0, x1, by rw [e0, e1]⟩

/-- Four keys as they lie. -/
abbrev keysV (t0 : Bool) (d0 : Int) (t1 : Bool) (d1 : Int) (t2 : Bool) (d2 : Int) (t3 : Bool) (d3 : Int) : Value :=
  .agg #[.bool t0, .int .i64 d0, .bool t1, .int .i64 d1, .bool t2, .int .i64 d2, .bool t3, .int .i64 d3]

theorem keys_open {H : Type} {enc : TypeId × Value → H} {w : World} {base b0 : Nat} {spare : Nat → Bool} {held : Bool} {r : Reach} {v : Value} {d : DataW H} {p : List MemPlace}
    (hv : Value.okWide Try.prog w r b0 30 v) (h : DataW.Trod enc Try.prog w base spare held 30 v d p) :
    ∃ (t0 : Bool) (d0 : Int) (t1 : Bool) (d1 : Int) (t2 : Bool) (d2 : Int) (t3 : Bool) (d3 : Int), v = keysV t0 d0 t1 d1 t2 d2 t3 d3 := by
  simp only [Value.okWide, Try.underlying30] at hv
  obtain ⟨cs, rfl, hsz, -⟩ := hv
  obtain ⟨fuel, hf⟩ := h
  obtain ⟨xs, m, -, -, hl, hlen, hall⟩ := DataW.trod_array Try.underlying30 hf
  rw [cells_keys] at hl
  simp only [Value.cells] at hl hall
  obtain ⟨l⟩ := cs
  simp only at hl hall
  match l, hl, xs, hlen with
  | [a0, a1, a2, a3, a4, a5, a6, a7], _, [y0, y1, y2, y3], _ =>
    have g0 := hall 0 (by decide)
    have g1 := hall 1 (by decide)
    have g2 := hall 2 (by decide)
    have g3 := hall 3 (by decide)
    simp [cells_key] at g0 g1 g2 g3
    obtain ⟨t0, d0, e0⟩ := key_read g0
    obtain ⟨t1, d1, e1⟩ := key_read g1
    obtain ⟨t2, d2, e2⟩ := key_read g2
    obtain ⟨t3, d3, e3⟩ := key_read g3
    simp only [List.cons.injEq, and_true] at e0 e1 e2 e3
    refine ⟨t0, d0, t1, d1, t2, d2, t3, d3, ?_⟩
    rw [e0.1, e0.2, e1.1, e1.2, e2.1, e2.2, e3.1, e3.2]

end Go.Proofs.Ytbiipnojhjhejaa

/- The contracts of check.has, isWay, denied, Wrong, Page and Tags over the loaded program: what each call returns, and that nothing that was there is written. -/
namespace Go.Proofs.Ytbiipnojhjhejaa
set_option maxRecDepth 100000
open Go.RowKit
set_option linter.unusedSimpArgs false
set_option linter.unusedVariables false

set_option maxHeartbeats 400000 in
theorem chas_any (s r : Int) (w : World) :
    Calls Try.prog 87 #[.int .i64 s, .int .i64 r] w fun e w' => e = .returned (.bool (hs s r)) ∧ w = w' := by
  go_enter Try.func87, Try.ntmps87
  go_wp2
  go_ret
  refine ⟨ret_bool ?_, rfl⟩
  unfold hs
  rw [Bool.eq_iff_iff]
  simp

def iw (y : Int) : Bool := decide (y = 1) || decide (y = 2) || decide (y = 4)

theorem iw_iff {y : Int} : iw y = true ↔ way3 y := by
  unfold iw way3
  simp only [Bool.or_eq_true, decide_eq_true_eq, or_assoc]

set_option maxHeartbeats 400000 in
theorem isWay_any (y : Int) (w : World) :
    Calls Try.prog 86 #[.int .i64 y] w fun e w' => e = .returned (.bool (iw y)) ∧ w = w' := by
  go_enter Try.func86, Try.ntmps86
  go_wp2
  all_goals
    go_ret
    refine ⟨ret_bool ?_, rfl⟩
    unfold iw
    rw [Bool.eq_iff_iff]
    simp_all

/-- What is wrong with rights. -/
def wrg (r : Int) : Int := if r < 0 ∨ 7 < r then 2 else if hs r 2 = true ∧ hs r 4 = true then 6 else 0

set_option maxHeartbeats 400000 in
theorem wrong_any (r : Int) (w : World) :
    Calls Try.prog 76 #[.int .i64 r] w fun e w' => e = .returned (.int .i64 (wrg r)) ∧ w = w' := by
  by_cases h0 : r < 0
  · have hw : wrg r = 2 := by unfold wrg; rw [if_pos (Or.inl h0)]
    rw [hw]
    clear hw
    go_enter Try.func76, Try.ntmps76
    go_wp2
    go_ret
    exact ⟨rfl, rfl⟩
  by_cases h7 : 7 < r
  · have hw : wrg r = 2 := by unfold wrg; rw [if_pos (Or.inr h7)]
    rw [hw]
    clear hw
    go_enter Try.func76, Try.ntmps76
    go_wp2
    go_ret
    exact ⟨rfl, rfl⟩
  have hw : Hid (wrg r = if hs r 2 = true ∧ hs r 4 = true then 6 else 0) := by show _ = _; unfold wrg; rw [if_neg (by omega)]
  generalize wrg r = W at *
  cases hA : hs r 2 <;> cases hB : hs r 4
  all_goals
    have hw2 := hw.out
    rw [hA, hB] at hw2
    simp at hw2
    subst hw2
    clear hw
    go_enter Try.func76, Try.ntmps76
    go_wp2_with (go_at_call 87; refine (chas_any _ _ _).mono ?_; rintro e w' ⟨rfl, rfl⟩)
    go_ret
    exact ⟨rfl, rfl⟩

/-- What a key denies. -/
def dk (d0 d1 d2 d3 k : Int) : Int := if k = 0 then d0 else if k = 1 then d1 else if k = 2 then d2 else d3

/-- Whether a key denies a way. -/
def dn (d0 d1 d2 d3 k y : Int) : Bool := if k < 0 ∨ 3 < k then true else hs (dk d0 d1 d2 d3 k) y

set_option maxHeartbeats 800000 in
theorem denied_any (t0 : Bool) (d0 : Int) (t1 : Bool) (d1 : Int) (t2 : Bool) (d2 : Int) (t3 : Bool) (d3 : Int) (k y : Int) (w : World) :
    Calls Try.prog 88 #[keysV t0 d0 t1 d1 t2 d2 t3 d3, .int .i64 k, .int .i64 y] w fun e w' => e = .returned (.bool (dn d0 d1 d2 d3 k y)) ∧ Below w.heap.size w w' := by
  have hbe : Hid (∀ o, Below w.heap.size w (w.alloc o)) := fun o => (Below.refl _ _).alloc (Nat.le_refl _) _
  by_cases h0 : k < 0
  · have hw : dn d0 d1 d2 d3 k y = true := by unfold dn; rw [if_pos (Or.inl h0)]
    rw [hw]
    clear hw
    go_enter Try.func88, Try.ntmps88
    go_wp2
    go_ret
    exact ⟨rfl, hbe.out _⟩
  by_cases h3 : 3 < k
  · have hw : dn d0 d1 d2 d3 k y = true := by unfold dn; rw [if_pos (Or.inr h3)]
    rw [hw]
    clear hw
    go_enter Try.func88, Try.ntmps88
    go_wp2
    go_ret
    exact ⟨rfl, hbe.out _⟩
  have hk : k = 0 ∨ k = 1 ∨ k = 2 ∨ k = 3 := by omega
  clear h0 h3
  rcases hk with rfl | rfl | rfl | rfl
  all_goals
    go_enter Try.func88, Try.ntmps88
    go_wp2_with (go_at_call 87; refine (chas_any _ _ _).mono ?_; rintro e w' ⟨rfl, rfl⟩)
    go_ret
    exact ⟨rfl, hbe.out _⟩

/-- The fault of looking. -/
def pg (r k d0 d1 d2 d3 y : Int) : Int := if iw y = false ∨ hs r y = false then 2 else if y ≠ 4 ∧ dn d0 d1 d2 d3 k y = true then 3 else 0

set_option maxHeartbeats 800000 in
theorem page_any (r k : Int) (t s : Bool) (t0 : Bool) (d0 : Int) (t1 : Bool) (d1 : Int) (t2 : Bool) (d2 : Int) (t3 : Bool) (d3 : Int) (y : Int) (w : World) :
    Calls Try.prog 74 #[.agg #[.int .i64 r, .int .i64 k, .bool t, .bool s], keysV t0 d0 t1 d1 t2 d2 t3 d3, .int .i64 y] w fun e w' => e = .returned (.int .i64 (pg r k d0 d1 d2 d3 y)) ∧ Below w.heap.size w w' := by
  have hP : Hid (pg r k d0 d1 d2 d3 y = if iw y = false ∨ hs r y = false then 2 else if y ≠ 4 ∧ dn d0 d1 d2 d3 k y = true then 3 else 0) := rfl
  have HI : Hid (∀ w1, Calls Try.prog 86 #[.int .i64 y] w1 fun e w' => e = .returned (.bool (iw y)) ∧ w1 = w') := fun w1 => isWay_any y w1
  have HH : Hid (∀ w1, Calls Try.prog 87 #[.int .i64 r, .int .i64 y] w1 fun e w' => e = .returned (.bool (hs r y)) ∧ w1 = w') := fun w1 => chas_any r y w1
  have HD : Hid (∀ w1, Calls Try.prog 88 #[keysV t0 d0 t1 d1 t2 d2 t3 d3, .int .i64 k, .int .i64 y] w1 fun e w' => e = .returned (.bool (dn d0 d1 d2 d3 k y)) ∧ Below w1.heap.size w1 w') := fun w1 => denied_any t0 d0 t1 d1 t2 d2 t3 d3 k y w1
  have hbe : Hid (∀ o1 o2, Below w.heap.size w ((w.alloc o1).alloc o2)) := fun o1 o2 => ((Below.refl _ _).alloc (Nat.le_refl _) _).alloc (by simp) _
  generalize pg r k d0 d1 d2 d3 y = P at *
  generalize iw y = A at *
  generalize hs r y = B at *
  generalize dn d0 d1 d2 d3 k y = D at *
  cases A
  · obtain rfl : P = 2 := by rw [hP.out]; simp
    go_enter Try.func74, Try.ntmps74
    go_wp2_with (go_at_call 86; refine (HI.out _).mono ?_; rintro e w' ⟨rfl, rfl⟩)
    go_ret
    exact ⟨rfl, hbe.out _ _⟩
  cases B
  · obtain rfl : P = 2 := by rw [hP.out]; simp
    go_enter Try.func74, Try.ntmps74
    go_wp2_with (first | (go_at_call 86; refine (HI.out _).mono ?_; rintro e w' ⟨rfl, rfl⟩) | (go_at_call 87; refine (HH.out _).mono ?_; rintro e w' ⟨rfl, rfl⟩))
    go_ret
    exact ⟨rfl, hbe.out _ _⟩
  by_cases h4 : y = 4
  · obtain rfl : P = 0 := by rw [hP.out]; simp [h4]
    clear hP
    subst h4
    go_enter Try.func74, Try.ntmps74
    go_wp2_with (first | (go_at_call 86; refine (HI.out _).mono ?_; rintro e w' ⟨rfl, rfl⟩) | (go_at_call 87; refine (HH.out _).mono ?_; rintro e w' ⟨rfl, rfl⟩))
    go_ret
    exact ⟨rfl, hbe.out _ _⟩
  have hy : (y != 4) = true := by simp [h4]
  cases D
  · obtain rfl : P = 0 := by rw [hP.out]; simp
    clear hP
    go_enter Try.func74, Try.ntmps74
    go_wp2_with (first | (go_at_call 86; refine (HI.out _).mono ?_; rintro e w' ⟨rfl, rfl⟩) | (go_at_call 87; refine (HH.out _).mono ?_; rintro e w' ⟨rfl, rfl⟩) | (go_at_call 88; refine (HD.out _).mono ?_; rintro e w2 ⟨rfl, hw2⟩))
    go_ret
    exact ⟨rfl, (hbe.out _ _).trans (hw2.mono (by simp; omega))⟩
  · obtain rfl : P = 3 := by rw [hP.out]; simp [h4]
    clear hP
    go_enter Try.func74, Try.ntmps74
    go_wp2_with (first | (go_at_call 86; refine (HI.out _).mono ?_; rintro e w' ⟨rfl, rfl⟩) | (go_at_call 87; refine (HH.out _).mono ?_; rintro e w' ⟨rfl, rfl⟩) | (go_at_call 88; refine (HD.out _).mono ?_; rintro e w2 ⟨rfl, hw2⟩))
    go_ret
    exact ⟨rfl, (hbe.out _ _).trans (hw2.mono (by simp; omega))⟩

end Go.Proofs.Ytbiipnojhjhejaa

/- The contract of check.Tags: the first granule that has another tag. -/
namespace Go.Proofs.Ytbiipnojhjhejaa
set_option maxRecDepth 100000
open Go.RowKit
set_option linter.unusedSimpArgs false
set_option linter.unusedVariables false

/-- The place of the first one that is not t. -/
def fu (zs : List Int) (t : Int) : Nat := zs.findIdx (fun z => z != t)

theorem fu_le (zs : List Int) (t : Int) : fu zs t ≤ zs.length := List.findIdx_le_length

theorem fu_before {zs : List Int} {t : Int} {k : Nat} (h : k < fu zs t) : zs.getD k 0 = t := by
  have hl : k < zs.length := Nat.lt_of_lt_of_le h (fu_le zs t)
  have := List.not_of_lt_findIdx h
  rw [List.getD_eq_getElem?_getD, List.getElem?_eq_getElem hl]
  simpa using this

theorem fu_at {zs : List Int} {t : Int} (h : fu zs t < zs.length) : zs.getD (fu zs t) 0 ≠ t := by
  have : (zs[fu zs t]'h != t) = true := List.findIdx_getElem (xs := zs) (p := fun z => z != t) (w := h)
  rw [List.getD_eq_getElem?_getD, List.getElem?_eq_getElem h]
  simpa using this

theorem fu_hit {zs : List Int} {t : Int} {k : Nat} (h : k ≤ fu zs t) (hk : zs.getD k 0 ≠ t) : fu zs t = k := by
  rcases Nat.lt_or_ge k (fu zs t) with h1 | h1
  · exact absurd (fu_before h1) hk
  · omega

theorem fu_pass {zs : List Int} {t : Int} {k : Nat} (h : k ≤ fu zs t) (hl : k < zs.length) (hk : zs.getD k 0 = t) : k + 1 ≤ fu zs t := by
  rcases Nat.lt_or_ge k (fu zs t) with h1 | h1
  · exact h1
  · obtain rfl : k = fu zs t := by omega
    exact absurd hk (fu_at hl)

/-- Whether tags fault. -/
def tgH (T : Bool) (y : Int) (zs : List Int) (t : Int) : Prop := T = true ∧ y ≠ 4 ∧ fu zs t < zs.length
instance (T : Bool) (y : Int) (zs : List Int) (t : Int) : Decidable (tgH T y zs t) := by unfold tgH; infer_instance

def tgF (T : Bool) (y : Int) (zs : List Int) (t : Int) : Int := if tgH T y zs t then 4 else 0
def tgK (T : Bool) (y : Int) (zs : List Int) (t : Int) : Int := if tgH T y zs t then fu zs t else 0

theorem tg_no {T : Bool} {y : Int} {zs : List Int} {t : Int} (h : ¬ tgH T y zs t) : tgF T y zs t = 0 ∧ tgK T y zs t = 0 := by
  unfold tgF tgK; rw [if_neg h, if_neg h]; exact ⟨rfl, rfl⟩
theorem tg_yes {T : Bool} {y : Int} {zs : List Int} {t : Int} (h : tgH T y zs t) : tgF T y zs t = 4 ∧ tgK T y zs t = fu zs t := by
  unfold tgF tgK; rw [if_pos h, if_pos h]; exact ⟨rfl, rfl⟩

theorem IsInts.below {w w' : World} {v : Value} {zs : List Int} {B : Nat} (h : IsInts w v zs) (hb : Below B w w') (hB : B = w.heap.size) : IsInts w' v zs := by
  subst hB
  obtain ⟨a, cap, h1, h2, h3, h4, h5⟩ := h
  refine ⟨a, cap, h1, h2, h3, h4, fun hp => ?_⟩
  obtain ⟨b, off, ha, hc⟩ := h5 hp
  exact ⟨b, off, ha, fun i hi => (hb.cell (cell_lt (hc i hi))).trans (hc i hi)⟩

set_option maxHeartbeats 800000 in
theorem tags_any (r k : Int) (T s : Bool) (y : Int) (v : Value) (zs : List Int) (t : Int) (w : World) (h : IsInts w v zs) :
    Calls Try.prog 75 #[.agg #[.int .i64 r, .int .i64 k, .bool T, .bool s], .int .i64 y, v, .int .i64 t] w fun e w' => e = .returned (.tuple #[.int .i64 (tgF T y zs t), .int .i64 (tgK T y zs t)]) ∧ Below w.heap.size w w' := by
  have hbe : Hid (∀ o, Below w.heap.size w (w.alloc o)) := fun o => (Below.refl _ _).alloc (Nat.le_refl _) _
  cases T
  · obtain ⟨e1, e2⟩ := tg_no (T := false) (y := y) (zs := zs) (t := t) (by simp [tgH])
    rw [e1, e2]
    clear e1 e2
    go_enter Try.func75, Try.ntmps75
    go_wp2
    go_ret2
    exact ⟨rfl, hbe.out _⟩
  by_cases h4 : y = 4
  · obtain ⟨e1, e2⟩ := tg_no (T := true) (y := y) (zs := zs) (t := t) (by simp [tgH, h4])
    rw [e1, e2]
    clear e1 e2
    go_enter Try.func75, Try.ntmps75
    go_wp2
    go_ret2
    exact ⟨rfl, hbe.out _⟩
  obtain ⟨a, cap, rfl, hzc, hzl, -, hz'⟩ := h
  obtain ⟨n, hn⟩ : ∃ n, Hid (n = zs.length) := ⟨_, rfl⟩
  rw [← hn.out] at hzc hzl hz' ⊢
  obtain ⟨F, hF⟩ : ∃ F, Hid (F = tgF true y zs t) := ⟨_, rfl⟩
  obtain ⟨K, hK⟩ : ∃ K, Hid (K = tgK true y zs t) := ⟨_, rfl⟩
  have H4 : Hid (y ≠ 4) := h4
  rw [← hF.out, ← hK.out]
  have hy4 : (y == 4) = false := by simp [h4]
  clear h4
  go_enter Try.func75, Try.ntmps75
  go_wp2
  go_loopw [21] (fun i wr => ∃ k : Nat, k ≤ n ∧ i = .int .i64 k ∧ Hid (k ≤ fu zs t) ∧ Below w.heap.size w wr) (fun i _ => n - (intOf i).toNat)
  case atStart => exact ⟨0, Nat.zero_le _, rfl, Nat.zero_le _, hbe.out _⟩
  case round =>
    obtain ⟨j, hj, rfl, hju, hbel⟩ := hrel
    by_cases hlt : j < n
    · obtain ⟨b, off, rfl, hz⟩ := hz' (by omega)
      have hck := hz j hlt
      have HP : Hid (zs.getD j 0 = t → j + 1 ≤ fu zs t) := fun h => fu_pass hju.out (by rw [← hn.out]; exact hlt) h
      have HH : Hid (zs.getD j 0 ≠ t → fu zs t = j) := fun h => fu_hit hju.out h
      obtain ⟨o, ho⟩ : ∃ o, o = zs.getD j 0 := ⟨_, rfl⟩
      rw [← ho] at hck HP HH
      have hk0 : wr.cell? ⟨b, off + j, none⟩ = some (.int .i64 o) := (hbel.cell (cell_lt hck)).trans hck
      clear hck ho
      by_cases ht : o = t
      · have HT : Hid (j + 1 ≤ fu zs t) := HP.out ht
        subst ht
        clear HP HH
        go_wp2
        go_roundw
        case rel => exact ⟨j + 1, by omega, by go_num, HT, hbel⟩
        case measure => simp [intOf]; omega
      · have HT : Hid (fu zs t = j) := HH.out ht
        have hne : (o != t) = true := by simp [ht]
        clear HP HH ht
        obtain ⟨e1, e2⟩ := tg_yes (T := true) (y := y) (zs := zs) (t := t) ⟨rfl, H4.out, by rw [HT.out, ← hn.out]; exact hlt⟩
        obtain rfl : F = 4 := by rw [hF.out]; exact e1
        obtain rfl : K = (j : Int) := by rw [hK.out, e2, HT.out]
        clear e1 e2
        go_wp2
        go_ret2
        exact ⟨rfl, hbel⟩
    · have hno : ¬ tgH true y zs t := fun h => by have := h.2.2; have := hju.out; have := hn.out; omega
      obtain ⟨e1, e2⟩ := tg_no hno
      obtain rfl : F = 0 := by rw [hF.out]; exact e1
      obtain rfl : K = 0 := by rw [hK.out]; exact e2
      clear e1 e2 hno
      go_wp2
      go_ret2
      exact ⟨rfl, hbel⟩

end Go.Proofs.Ytbiipnojhjhejaa

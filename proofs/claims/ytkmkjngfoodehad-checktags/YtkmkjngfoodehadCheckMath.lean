/- Bits of rights: whether a right is among those of a set, by its bit; what joining and taking away does to it. No program is named. -/
import Derived.WalkKit
import Derived.Laws.BitsLemmas
namespace Go.Proofs.Ytkmkjngfoodehad
open Go.RowKit

/-- Whether a right is among those of a set. -/
def hs (s r : Int) : Bool := decide (bits .and .i64 s r ≠ 0)

/-- One of the three ways. -/
def way3 (y : Int) : Prop := y = 1 ∨ y = 2 ∨ y = 4

theorem wrap_nat (n : Nat) (h : n < 18446744073709551616) : IntKind.i64.wrap (n : Int) = 0 ↔ n = 0 := by
  rw [IntKind.wrap_i64]
  omega

theorem ofInt_wrap (x : BitVec 64) : BitVec.ofInt 64 (IntKind.i64.wrap (x.toNat : Int)) = x := by
  apply BitVec.eq_of_toNat_eq
  rw [BitVec.toNat_ofInt, IntKind.wrap_i64]
  have := x.isLt
  omega

theorem and_def (a b : Int) : bits .and .i64 a b = IntKind.i64.wrap ((BitVec.ofInt 64 a &&& BitVec.ofInt 64 b).toNat : Nat) := rfl
theorem or_def (a b : Int) : bits .or .i64 a b = IntKind.i64.wrap ((BitVec.ofInt 64 a ||| BitVec.ofInt 64 b).toNat : Nat) := rfl
theorem andNot_def (a b : Int) : bits .andNot .i64 a b = IntKind.i64.wrap ((BitVec.ofInt 64 a &&& ~~~ (BitVec.ofInt 64 b)).toNat : Nat) := rfl

theorem hs_pow (s r : Int) (j : Nat) (hj : j < 64) (hr : BitVec.ofInt 64 r = BitVec.twoPow 64 j) : hs s r = (BitVec.ofInt 64 s).getLsbD j := by
  unfold hs
  rw [and_def, hr, BitVec.and_twoPow]
  cases h : (BitVec.ofInt 64 s).getLsbD j
  · simp [IntKind.wrap_i64]
  · simp only [if_true, ne_eq, decide_eq_true_eq]
    rw [wrap_nat _ (BitVec.isLt _), BitVec.toNat_twoPow_of_lt hj]
    exact Nat.ne_of_gt (Nat.two_pow_pos j)

theorem hs_way {y : Int} (hy : way3 y) : ∃ j, j < 64 ∧ BitVec.ofInt 64 y = BitVec.twoPow 64 j := by
  rcases hy with rfl | rfl | rfl
  · exact ⟨0, by decide, by decide⟩
  · exact ⟨1, by decide, by decide⟩
  · exact ⟨2, by decide, by decide⟩

theorem hs_or {s y : Int} (m : Int) (hy : way3 y) (h : hs s y = true) : hs (bits .or .i64 s m) y = true := by
  obtain ⟨j, hj, hr⟩ := hs_way hy
  rw [hs_pow _ _ j hj hr] at h ⊢
  rw [or_def, ofInt_wrap, BitVec.getLsbD_or, h]
  rfl

theorem hs_less {s y : Int} (m : Int) (hy : way3 y) (h : hs s y = false) : hs (bits .andNot .i64 s m) y = false := by
  obtain ⟨j, hj, hr⟩ := hs_way hy
  rw [hs_pow _ _ j hj hr] at h ⊢
  rw [andNot_def, ofInt_wrap, BitVec.getLsbD_and, h]
  rfl

/-- The same by division: the number as one without a sign. -/
theorem hs_div (s r : Int) (j : Nat) (hj : j < 64) (hr : BitVec.ofInt 64 r = BitVec.twoPow 64 j) : hs s r = decide ((s % 18446744073709551616) / 2 ^ j % 2 = 1) := by
  rw [hs_pow _ _ j hj hr, BitVec.getLsbD, BitVec.toNat_ofInt, Nat.testBit_eq_decide_div_mod_eq]
  apply Bool.eq_iff_iff.2
  simp only [decide_eq_true_eq]
  have h0 : 0 ≤ s % 18446744073709551616 := by omega
  obtain ⟨n, hn⟩ := Int.eq_ofNat_of_zero_le h0
  have h1 : (s % ((2 ^ 64 : Nat) : Int)).toNat = n := by
    have : ((2 ^ 64 : Nat) : Int) = 18446744073709551616 := by decide
    rw [this, hn]; rfl
  rw [h1, hn]
  norm_cast

theorem hs_1 (s : Int) : hs s 1 = decide ((s % 18446744073709551616) / 1 % 2 = 1) := hs_div s 1 0 (by decide) (by decide)
theorem hs_2 (s : Int) : hs s 2 = decide ((s % 18446744073709551616) / 2 % 2 = 1) := hs_div s 2 1 (by decide) (by decide)
theorem hs_4 (s : Int) : hs s 4 = decide ((s % 18446744073709551616) / 4 % 2 = 1) := hs_div s 4 2 (by decide) (by decide)

end Go.Proofs.Ytkmkjngfoodehad

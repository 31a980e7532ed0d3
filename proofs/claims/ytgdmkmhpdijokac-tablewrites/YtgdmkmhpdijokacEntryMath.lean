/- Entries as numbers: plain mathematics; no program is named. -/
import Derived.WalkKit
import Derived.Laws.BitsLemmas
namespace Go.Proofs.Ytgdmkmhpdijokac
open Go.RowKit

/-- Whether an entry of that kind and number is one that has a number. -/
def okE (k n : Int) : Prop := (k = 0 ∧ n = 0) ∨ (k = 1 ∧ 0 ≤ n ∧ n < 64) ∨ (k = 2 ∧ 0 ≤ n ∧ n < 64)

instance (k n : Int) : Decidable (okE k n) := by unfold okE; infer_instance

/-- What is wrong with it. -/
def pkE (k n : Int) : Int := if okE k n then 0 else if k = 0 ∨ k = 1 ∨ k = 2 then 2 else 5
/-- Its number. -/
def pkV (k n : Int) : Int := if okE k n then 256 * n + k else 0

theorem or_low (n k : Int) (h0 : 0 ≤ n) (h1 : n < 64) (h2 : 0 ≤ k) (h3 : k < 3) : bits .or .i64 (n * 256) k = 256 * n + k := by
  obtain ⟨N, rfl⟩ := Int.eq_ofNat_of_zero_le h0
  obtain ⟨K, rfl⟩ := Int.eq_ofNat_of_zero_le h2
  have h : ∀ n : Fin 64, ∀ k : Fin 3, bits .or .i64 ((n.val : Int) * 256) (k.val : Int) = 256 * (n.val : Int) + (k.val : Int) := by decide +kernel
  exact h ⟨N, by omega⟩ ⟨K, by omega⟩

theorem and255 (n : Int) : bits .and .i64 n 255 = n % 256 := by
  have hm : (BitVec.ofInt 64 255).toNat = 2 ^ 8 - 1 := by decide
  have key : (BitVec.ofInt 64 n &&& BitVec.ofInt 64 255).toNat = (n % ((2 ^ 64 : Nat) : Int)).toNat % 2 ^ 8 := by
    rw [BitVec.toNat_and, BitVec.toNat_ofInt, hm, Nat.and_two_pow_sub_one_eq_mod]
  show IntKind.i64.wrap ((BitVec.ofInt 64 n &&& BitVec.ofInt 64 255).toNat : Nat) = n % 256
  rw [key, IntKind.wrap_i64]
  omega

theorem pkE_ok {k n : Int} (h : okE k n) : pkE k n = 0 := by unfold pkE; rw [if_pos h]
theorem pkV_ok {k n : Int} (h : okE k n) : pkV k n = 256 * n + k := by unfold pkV; rw [if_pos h]
theorem pkV_no {k n : Int} (h : ¬ okE k n) : pkV k n = 0 := by unfold pkV; rw [if_neg h]
theorem pkE_range {k n : Int} (h : ¬ okE k n) (hk : k = 0 ∨ k = 1 ∨ k = 2) : pkE k n = 2 := by unfold pkE; rw [if_neg h, if_pos hk]
theorem pkE_kind {k n : Int} (hk : ¬ (k = 0 ∨ k = 1 ∨ k = 2)) : pkE k n = 5 := by
  unfold pkE; rw [if_neg (by unfold okE; omega), if_neg hk]
theorem pkE_iff {k n : Int} : pkE k n = 0 ↔ okE k n := by
  unfold pkE; split
  · simp [*]
  · split <;> simp [*]

/-- Whether a number is an entry. -/
def upOk (v : Int) : Prop := okE (v % 256) (v / 256)
instance (v : Int) : Decidable (upOk v) := by unfold upOk; infer_instance

/-- The entry that a number is, and what is wrong. -/
def upK (v : Int) : Int := if upOk v then v % 256 else 0
def upN (v : Int) : Int := if upOk v then v / 256 else 0
def upE (v : Int) : Int := if upOk v then 0 else 1

theorem up_of {k n : Int} (h : okE k n) : upOk (256 * n + k) ∧ (256 * n + k) % 256 = k ∧ (256 * n + k) / 256 = n := by
  have h1 : (256 * n + k) % 256 = k := by unfold okE at h; omega
  have h2 : (256 * n + k) / 256 = n := by unfold okE at h; omega
  refine ⟨?_, h1, h2⟩
  unfold upOk; rw [h1, h2]; exact h

/-- How many numbers an entry of that kind may have. -/
def chs (k : Int) : Int := if k = 0 then 1 else if k = 1 ∨ k = 2 then 64 else 0

theorem chs_ok {k n : Int} (h : okE k n) : 0 ≤ n ∧ n < chs k ∧ chs k ≤ 64 := by
  unfold okE at h
  rcases h with ⟨rfl, h⟩ | ⟨rfl, h⟩ | ⟨rfl, h⟩ <;> simp [chs] <;> omega
theorem chs_range {k n : Int} (h : ¬ okE k n) (hk : k = 0 ∨ k = 1 ∨ k = 2) : 0 < chs k ∧ chs k ≤ 64 ∧ (n < 0 ∨ chs k ≤ n) := by
  unfold okE at h
  rcases hk with rfl | rfl | rfl <;> simp [chs] <;> omega
theorem chs_kind {k : Int} (hk : ¬ (k = 0 ∨ k = 1 ∨ k = 2)) : chs k = 0 := by
  unfold chs; rw [if_neg (by omega), if_neg (by omega)]

theorem upK_ok {v : Int} (h : upOk v) : upK v = v % 256 := by unfold upK; rw [if_pos h]
theorem upN_ok {v : Int} (h : upOk v) : upN v = v / 256 := by unfold upN; rw [if_pos h]
theorem upE_ok {v : Int} (h : upOk v) : upE v = 0 := by unfold upE; rw [if_pos h]
theorem upK_no {v : Int} (h : ¬ upOk v) : upK v = 0 := by unfold upK; rw [if_neg h]
theorem upN_no {v : Int} (h : ¬ upOk v) : upN v = 0 := by unfold upN; rw [if_neg h]
theorem upE_no {v : Int} (h : ¬ upOk v) : upE v = 1 := by unfold upE; rw [if_neg h]

theorem pk_ne {v k n : Int} (hu : ¬ upOk v) : pkE k n ≠ 0 ∨ pkV k n ≠ v := by
  by_cases ho : okE k n
  · right
    rw [pkV_ok ho]
    rintro rfl
    exact hu (up_of ho).1
  · left
    exact fun h => ho (pkE_iff.1 h)

theorem pk_ne' {v k n : Int} (hd : ¬ (k = v % 256 ∧ n = v / 256)) : pkE k n ≠ 0 ∨ pkV k n ≠ v := by
  by_cases ho : okE k n
  · right
    rw [pkV_ok ho]
    rintro rfl
    exact hd ⟨(up_of ho).2.1.symm, (up_of ho).2.2.symm⟩
  · left
    exact fun h => ho (pkE_iff.1 h)

theorem of_up (v : Int) : 256 * (v / 256) + v % 256 = v := by omega

end Go.Proofs.Ytgdmkmhpdijokac

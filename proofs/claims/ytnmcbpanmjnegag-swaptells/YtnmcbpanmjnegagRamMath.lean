/- Plain facts on lists of bytes: a number's bytes laid into a list and read out of it; no program is named. -/
import Derived.WalkKit
import Derived.Laws.BitsAllLaws
namespace Go.Proofs.Ytnmcbpanmjnegag
open Go.RowKit

theorem i64_or_nat (a b : Nat) (ha : a < 9223372036854775808) (hb : b < 9223372036854775808) : bits .or .i64 (a : Int) (b : Int) = ((a ||| b : Nat) : Int) := by
  have hx : a ||| b < 2 ^ 63 := Nat.or_lt_two_pow (by omega) (by omega)
  show IntKind.i64.wrap ((BitVec.ofInt 64 (a : Int) ||| BitVec.ofInt 64 (b : Int)).toNat : Int) = _
  rw [BitVec.toNat_or, ofInt_u64 a (by omega), ofInt_u64 b (by omega), IntKind.wrap_i64]
  omega

/-- The number that the k bytes from place p on are, the least first. -/
def getN (zs : List Int) (p : Nat) : Nat → Int
  | 0 => 0
  | k + 1 => getN zs p k + zs.getD (p + k) 0 * 256 ^ k

def Bytes (zs : List Int) : Prop := ∀ i, 0 ≤ zs.getD i 0 ∧ zs.getD i 0 ≤ 255

theorem getN_bd (zs : List Int) (p : Nat) (hz : Bytes zs) : ∀ k, 0 ≤ getN zs p k ∧ getN zs p k < 256 ^ k
  | 0 => by simp [getN]
  | k + 1 => by
    have ih := getN_bd zs p hz k
    have hb := hz (p + k)
    have hp : (0 : Int) < 256 ^ k := Int.pow_pos (by decide)
    have h1 : 0 ≤ zs.getD (p + k) 0 * 256 ^ k := Int.mul_nonneg hb.1 (by omega)
    have h2 : zs.getD (p + k) 0 * 256 ^ k ≤ 255 * 256 ^ k := Int.mul_le_mul_of_nonneg_right hb.2 (by omega)
    have h3 : (256 : Int) ^ (k + 1) = 256 ^ k * 256 := Int.pow_succ ..
    simp only [getN]
    omega

theorem or_gen (X Z m j : Nat) (hm : m = 2 ^ j) (hX : X < m) (h : X < 9223372036854775808) (hY : Z * m < 9223372036854775808) :
    bits .or .i64 (X : Int) ((Z * m : Nat) : Int) = ((X + Z * m : Nat) : Int) := by
  rw [i64_or_nat X (Z * m) h hY, Nat.or_comm, nat_join j (Z * m) X (by rw [← hm]; exact Nat.mul_mod_left Z m) (by omega), Nat.add_comm]

theorem or_case (x z m : Int) (M j : Nat) (hm : m = (M : Int)) (hM : M = 2 ^ j) (hs : M ≤ 16777216) (h0 : 0 ≤ x) (h1 : x < m) (h2 : 0 ≤ z) (h3 : z ≤ 255) :
    bits .or .i64 x (wrap64 (wrap64 z * m)) = x + z * m := by
  have e1 : wrap64 z = z := by unfold wrap64; omega
  obtain ⟨X, rfl⟩ := Int.eq_ofNat_of_zero_le h0
  obtain ⟨Z, rfl⟩ := Int.eq_ofNat_of_zero_le h2
  have hb : Z * M ≤ 255 * 16777216 := Nat.mul_le_mul (by omega) hs
  have e2 : wrap64 ((Z : Int) * (M : Int)) = ((Z * M : Nat) : Int) := by
    rw [← Int.natCast_mul]
    generalize Z * M = q at *
    unfold wrap64
    omega
  rw [e1, hm, e2, or_gen X Z M j hM (by omega) (by omega) (by omega)]
  simp

theorem or_step (x z : Int) (k : Nat) (hk : k ≤ 3) (h0 : 0 ≤ x) (h1 : x < 256 ^ k) (h2 : 0 ≤ z) (h3 : z ≤ 255) :
    bits .or .i64 x (wrap64 (wrap64 z * 2 ^ (8 * k))) = x + z * 256 ^ k := by
  match k, hk with
  | 0, _ => exact or_case x z 1 1 0 rfl rfl (by omega) h0 h1 h2 h3
  | 1, _ => exact or_case x z 256 256 8 rfl rfl (by omega) h0 h1 h2 h3
  | 2, _ => exact or_case x z 65536 65536 16 rfl rfl (by omega) h0 h1 h2 h3
  | 3, _ => exact or_case x z 16777216 16777216 24 rfl rfl (by omega) h0 h1 h2 h3

/-- Byte k of the number v (the least is byte 0). -/
def byteK (v : Int) (k : Nat) : Int := v / 256 ^ k % 256

theorem byteK_bd (v : Int) (k : Nat) : 0 ≤ byteK v k ∧ byteK v k ≤ 255 := by unfold byteK; omega

def putK (zs : List Int) (p : Nat) (v : Int) : Nat → List Int
  | 0 => zs
  | k + 1 => (putK zs p v k).set (p + k) (byteK v k)

theorem length_putK (zs : List Int) (p : Nat) (v : Int) : ∀ k, (putK zs p v k).length = zs.length
  | 0 => rfl
  | k + 1 => by simp [putK, length_putK zs p v k]

theorem getD_set (l : List Int) (i j : Nat) (x : Int) : (l.set i x).getD j 0 = if i = j ∧ i < l.length then x else l.getD j 0 := by
  simp only [List.getD_eq_getElem?_getD, List.getElem?_set]
  by_cases h : i = j
  · subst h
    by_cases hl : i < l.length
    · simp [hl]
    · simp [hl]
  · simp [h]

theorem putK_getD (zs : List Int) (p : Nat) (v : Int) (i : Nat) : ∀ k, (putK zs p v k).getD i 0 = if p ≤ i ∧ i < p + k ∧ i < zs.length then byteK v (i - p) else zs.getD i 0
  | 0 => by rw [if_neg (by omega)]; rfl
  | k + 1 => by
    simp only [putK]
    rw [getD_set, putK_getD zs p v i k, length_putK]
    by_cases h : p + k = i ∧ p + k < zs.length
    · rw [if_pos h, if_pos (by omega)]
      congr 1; omega
    · rw [if_neg h]
      by_cases h2 : p ≤ i ∧ i < p + k ∧ i < zs.length
      · rw [if_pos h2, if_pos (by omega)]
      · rw [if_neg h2, if_neg (by omega)]

theorem putK_bytes (zs : List Int) (hz : Bytes zs) (p : Nat) (v : Int) (k : Nat) : Bytes (putK zs p v k) := by
  intro i
  rw [putK_getD]
  split
  · exact byteK_bd _ _
  · exact hz i

theorem getN_congr (zs ys : List Int) (p : Nat) : ∀ k, (∀ i, i < k → zs.getD (p + i) 0 = ys.getD (p + i) 0) → getN zs p k = getN ys p k
  | 0, _ => rfl
  | k + 1, h => by simp only [getN]; rw [getN_congr zs ys p k (fun i hi => h i (by omega)), h k (by omega)]

theorem mod_step (v : Int) (k : Nat) : v % 256 ^ k + byteK v k * 256 ^ k = v % 256 ^ (k + 1) := by
  have hp : (0 : Int) < 256 ^ k := Int.pow_pos (by decide)
  unfold byteK
  have h1 := Int.emod_add_mul_ediv v (256 ^ k)
  have h2 := Int.emod_add_mul_ediv (v / 256 ^ k) 256
  have h3 : v / 256 ^ (k + 1) = v / 256 ^ k / 256 := by rw [Int.pow_succ, Int.ediv_ediv_of_nonneg (by omega)]
  have h4 := Int.emod_add_mul_ediv v (256 ^ (k + 1))
  rw [h3] at h4
  generalize v / 256 ^ k = q at *
  have h5 : (256 : Int) ^ (k + 1) * (q / 256) = 256 ^ k * (256 * (q / 256)) := by rw [Int.pow_succ, Int.mul_assoc]
  have h6 : 256 ^ k * q = 256 ^ k * (q % 256) + 256 ^ k * (256 * (q / 256)) := by rw [← Int.mul_add, h2]
  have h7 : q % 256 * 256 ^ k = 256 ^ k * (q % 256) := Int.mul_comm ..
  omega

theorem getN_bytes (zs : List Int) (p : Nat) (v : Int) : ∀ k, (∀ i, i < k → zs.getD (p + i) 0 = byteK v i) → getN zs p k = v % 256 ^ k
  | 0, _ => by simp [getN, Int.emod_one]
  | k + 1, h => by
    simp only [getN]
    rw [getN_bytes zs p v k (fun i hi => h i (by omega)), h k (by omega), mod_step]

theorem getN_putK (zs : List Int) (p : Nat) (v : Int) (n : Nat) (h : p + n ≤ zs.length) : getN (putK zs p v n) p n = v % 256 ^ n := by
  refine getN_bytes _ _ _ _ fun i hi => ?_
  rw [putK_getD, if_pos (by omega)]
  congr 1; omega

theorem getN_putK_apart (zs : List Int) (p : Nat) (v : Int) (n q m : Nat) (h : q + m ≤ p ∨ p + n ≤ q) : getN (putK zs p v n) q m = getN zs q m := by
  refine getN_congr _ _ _ _ fun i hi => ?_
  rw [putK_getD, if_neg (by omega)]

theorem ext_getD (l r : List Int) (h : l.length = r.length) (g : ∀ i, l.getD i 0 = r.getD i 0) : l = r := by
  apply List.ext_getElem h
  intro i h1 h2
  have := g i
  simpa [List.getD_eq_getElem?_getD, h1, h2] using this

theorem putK_over (zs : List Int) (p : Nat) (v u : Int) (n : Nat) : putK (putK zs p v n) p u n = putK zs p u n := by
  refine ext_getD _ _ (by simp [length_putK]) fun i => ?_
  simp only [putK_getD, length_putK]
  by_cases h : p ≤ i ∧ i < p + n ∧ i < zs.length
  · simp only [if_pos h]
  · simp only [if_neg h]

theorem putK_comm (zs : List Int) (p : Nat) (v : Int) (n q : Nat) (u : Int) (m : Nat) (h : q + m ≤ p ∨ p + n ≤ q) : putK (putK zs p v n) q u m = putK (putK zs q u m) p v n := by
  refine ext_getD _ _ (by simp [length_putK]) fun i => ?_
  simp only [putK_getD, length_putK]
  by_cases h1 : p ≤ i ∧ i < p + n ∧ i < zs.length
  · simp only [if_pos h1, if_neg (show ¬ (q ≤ i ∧ i < q + m ∧ i < zs.length) by omega)]
  · simp only [if_neg h1]

theorem getN_cons (zs : List Int) (p : Nat) : ∀ k, getN zs p (k + 1) = zs.getD p 0 + 256 * getN zs (p + 1) k
  | 0 => by simp [getN]
  | k + 1 => by
    have ih := getN_cons zs p k
    rw [getN, ih]
    simp only [getN]
    rw [show p + 1 + k = p + (k + 1) from by omega, Int.pow_succ, Int.mul_add, ← Int.mul_assoc, ← Int.mul_assoc]
    have : zs.getD (p + (k + 1)) 0 * 256 ^ k * 256 = 256 * zs.getD (p + (k + 1)) 0 * 256 ^ k := by rw [Int.mul_comm, ← Int.mul_assoc]
    omega

theorem getN_small (zs : List Int) (p k : Nat) (hz : Bytes zs) (hk : k ≤ 3) : 0 ≤ getN zs p k ∧ getN zs p k ≤ 16777215 := by
  have h := getN_bd zs p hz k
  have hm : (256 : Int) ^ k ≤ 16777216 := by
    match k, hk with
    | 0, _ => decide
    | 1, _ => decide
    | 2, _ => decide
    | 3, _ => decide
  omega

/-- Byte j of the number's 64 bits, counted without a sign. -/
theorem byte_u64 (v : Int) (j : Nat) (hj : j ≤ 3) : v % 18446744073709551616 / 256 ^ j % 256 = byteK v j := by
  unfold byteK
  match j, hj with
  | 0, _ => simp only [Int.pow_zero]; omega
  | 1, _ => simp only [show (256 : Int) ^ 1 = 256 from rfl]; omega
  | 2, _ => simp only [show (256 : Int) ^ 2 = 65536 from rfl]; omega
  | 3, _ => simp only [show (256 : Int) ^ 3 = 16777216 from rfl]; omega

theorem putK_take (zs : List Int) (p : Nat) (v : Int) (n k : Nat) (hk : k < zs.length) :
    (putK zs p v n).take (k + 1) = (putK zs p v n).take k ++ [if p ≤ k ∧ k < p + n then byteK v (k - p) else zs.getD k 0] := by
  have hl : k < (putK zs p v n).length := by rw [length_putK]; exact hk
  rw [List.take_succ_eq_append_getElem hl]
  congr 2
  have := putK_getD zs p v k n
  rw [List.getD_eq_getElem?_getD, List.getElem?_eq_getElem hl] at this
  simp only [Option.getD_some] at this
  rw [this]
  by_cases h : p ≤ k ∧ k < p + n
  · rw [if_pos ⟨h.1, h.2, hk⟩, if_pos h]
  · rw [if_neg (by omega), if_neg h]

end Go.Proofs.Ytnmcbpanmjnegag

/- The contracts of package ram's functions (has, Get, Put, Frame, New) over the loaded program: what each call returns, and that nothing that was there is written. -/
import Derived.Test.YtgdmkmhpdijokacRows
import Derived.Test.YtgdmkmhpdijokacRamMath
import Derived.Test.YtgdmkmhpdijokacKit
import Derived.Test.YtgdmkmhpdijokacBytes
import Derived.WalkKit
import Derived.WalkLawsBesides
import Derived.WalkSpells
import Derived.Below
import Derived.OpenShut
import Derived.Laws.CopyOwn
namespace Go.Proofs.Ytgdmkmhpdijokac
open Go.RowKit

def hasB (len : Nat) (at_ n : Int) : Bool := decide (1 ≤ n ∧ n ≤ 4 ∧ 0 ≤ at_ ∧ at_ + n ≤ len)

set_option maxHeartbeats 400000 in
theorem has_any (a : Option Addr) (len cap : Nat) (p n : Int) (w : World) (hl : len ≤ maxLen) :
    Calls Try.prog 33 #[.slice a len cap, .int .i64 p, .int .i64 n] w fun e w' => e = .returned (.bool (hasB len p n)) ∧ w = w' := by
  unfold maxLen at hl
  go_enter Try.func33, Try.ntmps33
  go_wp2
  all_goals
    go_ret
    refine ⟨ret_bool ?_, rfl⟩
    unfold hasB
    first
      | (rw [decide_eq_decide]; omega)
      | (symm; rw [decide_eq_false_iff_not]; omega)

set_option maxHeartbeats 400000 in
theorem get_ok (b off len cap : Nat) (zs : List Int) (p n : Nat) (w : World) (hl : len ≤ maxLen) (h1 : 1 ≤ n) (h4 : n ≤ 4) (hpn : p + n ≤ len)
    (hz : Bytes zs) (hc : ∀ i, i < len → w.cell? ⟨b, off + i, none⟩ = some (.int .u8 (zs.getD i 0))) :
    Calls Try.prog 27 #[.slice (some ⟨b, off, none⟩) len cap, .int .i64 p, .int .i64 n] w fun e w' => e = .returned (.tuple #[.int .i64 (getN zs p n), .int .i64 0]) ∧ w = w' := by
  have HB : hasB len p n = true := by unfold hasB; simp; omega
  have hl2 := hl
  unfold maxLen at hl
  go_enter Try.func27, Try.ntmps27
  go_wp2_with (go_at_call 33; refine (has_any _ _ _ _ _ _ hl2).mono ?_; rintro e w' ⟨rfl, rfl⟩)
  go_loop [8, 16] (fun v i => ∃ k : Nat, k ≤ n ∧ i = .int .i64 k ∧ v = .int .i64 (getN zs p k)) (fun _ i => n - (intOf i).toNat)
  case atStart => exact ⟨0, Nat.zero_le _, rfl, rfl⟩
  case round =>
    obtain ⟨k, hk, rfl, rfl⟩ := hrel
    have hzk := hz (p + k)
    have hg := getN_bd zs p hz k
    by_cases hlt : k < n
    · have hck := hc (p + k) (by omega)
      have HS : Hid (bits .or .i64 (getN zs p k) (wrap64 (wrap64 (zs.getD (p + k) 0) * 2 ^ (8 * k))) = getN zs p (k + 1)) := or_step _ _ k (by omega) hg.1 hg.2 hzk.1 hzk.2
      clear hg
      go_wp2
      go_round
      case rel =>
        refine ⟨k + 1, by omega, by go_num, ?_⟩
        rw [← HS.out, List.getD_eq_getElem?_getD]
      case measure => simp [intOf]; omega
    · go_wp2
      go_ret2
      obtain rfl : k = n := by omega
      exact ⟨rfl, rfl⟩

set_option maxHeartbeats 400000 in
theorem get_bad (a : Option Addr) (len cap : Nat) (p n : Int) (w : World) (hl : len ≤ maxLen) (hb : hasB len p n = false) :
    Calls Try.prog 27 #[.slice a len cap, .int .i64 p, .int .i64 n] w fun e w' => e = .returned (.tuple #[.int .i64 0, .int .i64 2]) ∧ w = w' := by
  go_enter Try.func27, Try.ntmps27
  go_wp2_with (go_at_call 33; refine (has_any _ _ _ _ _ _ hl).mono ?_; rintro e w' ⟨rfl, rfl⟩)
  go_ret2
  exact ⟨rfl, rfl⟩

theorem hasB_iff {len : Nat} {p n : Int} : hasB len p n = true ↔ 1 ≤ n ∧ n ≤ 4 ∧ 0 ≤ p ∧ p + n ≤ len := by unfold hasB; simp

/-- What Get answers. -/
def getV (zs : List Int) (p n : Int) : Int := if hasB zs.length p n then getN zs p.toNat n.toNat else 0
def errV (zs : List Int) (p n : Int) : Int := if hasB zs.length p n then 0 else 2

theorem get_any (v : Value) (zs : List Int) (p n : Int) (w : World) (h : IsBytes w v zs) :
    Calls Try.prog 27 #[v, .int .i64 p, .int .i64 n] w fun e w' => e = .returned (.tuple #[.int .i64 (getV zs p n), .int .i64 (errV zs p n)]) ∧ w = w' := by
  obtain ⟨a, cap, rfl, h1, h2, h3, h4⟩ := h
  have hl : zs.length ≤ maxLen := by unfold maxLen; omega
  by_cases hb : hasB zs.length p n = true
  · obtain ⟨g1, g2, g3, g4⟩ := hasB_iff.1 hb
    obtain ⟨P, rfl⟩ := Int.eq_ofNat_of_zero_le g3
    obtain ⟨N, rfl⟩ := Int.eq_ofNat_of_zero_le (show 0 ≤ n by omega)
    obtain ⟨b, off, rfl, hc⟩ := h4 (by omega)
    refine (get_ok b off zs.length cap zs P N w hl (by omega) (by omega) (by omega) h3 hc).mono ?_
    rintro e w' ⟨rfl, rfl⟩
    simp [getV, errV, hb]
  · have hb' : hasB zs.length p n = false := by simpa using hb
    refine (get_bad a zs.length cap p n w hl hb').mono ?_
    rintro e w' ⟨rfl, rfl⟩
    simp [getV, errV, hb']

set_option maxHeartbeats 400000 in
theorem put_bad (a : Option Addr) (len cap : Nat) (p n x : Int) (w : World) (hl : len ≤ maxLen) (hb : hasB len p n = false) :
    Calls Try.prog 31 #[.slice a len cap, .int .i64 p, .int .i64 n, .int .i64 x] w fun e w' => e = .returned (.tuple #[.slice none 0 0, .int .i64 2]) ∧ w = w' := by
  go_enter Try.func31, Try.ntmps31
  go_wp2_with (go_at_call 33; refine (has_any _ _ _ _ _ _ hl).mono ?_; rintro e w' ⟨rfl, rfl⟩)
  go_ret2
  exact ⟨rfl, rfl⟩

theorem byte_form (x : Int) (k : Nat) : x / 2 ^ (8 * k) % 256 = byteK x k := by
  unfold byteK
  rw [Int.pow_mul]
  rfl

set_option maxHeartbeats 400000 in
theorem put_ok (b off len cap : Nat) (zs : List Int) (p n : Nat) (x : Int) (w : World) (hl : len ≤ 140737488351232) (hlen : zs.length = len) (h1 : 1 ≤ n) (h4 : n ≤ 4) (hpn : p + n ≤ len)
    (hc : ∀ i, i < len → w.cell? ⟨b, off + i, none⟩ = some (.int .u8 (zs.getD i 0))) :
    Calls Try.prog 31 #[.slice (some ⟨b, off, none⟩) len cap, .int .i64 p, .int .i64 n, .int .i64 x] w fun e w' => e = .returned (.tuple #[.slice (some ⟨w.heap.size, 0, none⟩) len len, .int .i64 0]) ∧
      Below w.heap.size w w' ∧ OwnRow w' w.heap.size 5 (vals (putK zs p x n)) := by
  have HB : hasB len p n = true := by unfold hasB; simp; omega
  have hl2 : len ≤ maxLen := by unfold maxLen; omega
  obtain ⟨i0, hi, hz0, hz1, hz2⟩ := info_parts Try.infoU8
  have hby : i0.bytes * len ≤ 281474976710656 := by rw [hz2]; omega
  have hcs : Hid (∀ (w' : World), Below w.heap.size w w' → ∀ j v, (vals zs)[j]? = some v → w'.cell? ((⟨b, off, none⟩ : Addr).add j) = some v) := by
    intro w' hb j v hv
    have hj : j < len := by
      have := (List.getElem?_eq_some_iff.1 hv).1
      rw [length_vals] at this; omega
    rw [vals_get zs j (by omega)] at hv
    rw [add_none, hb.cell (cell_lt (hc j hj)), hc j hj, hv]
  have HL : Hid (zs.length = len) := hlen
  clear hlen hc
  go_enter Try.func31, Try.ntmps31
  go_wp2_with (first
    | (go_at_call 33; refine (has_any _ _ _ _ _ _ hl2).mono ?_; rintro e w' ⟨rfl, rfl⟩)
    | (at_make; go_must (refine wpList_make_row _ rfl _ _ 22 rfl 5 i0 (.int .u8 0) Try.underlying22 hi hz0 hz1 rfl .i64 .i64 _ _ len rfl rfl rfl rfl hby hl2 ?_); intro w1 hrow hbel hsz)
    | (refine wpList_copy_row rfl (.tmp 20) (.tmp 21) 22 22 rfl 5 Try.underlying22 Try.sizeU8 _ _ len _ _ rfl rfl w.heap.size _ 5 hrow (vals zs) (by rw [length_vals]; exact HL.out) (by simp) (fun _ => ⟨rfl, _, rfl, hcs.out _ hbel⟩) (vals_one zs) w.heap.size w hbel (Nat.le_refl _) ?_; intro w2 hrow2 hbel2))
  clear hrow hbel hcs
  go_loopw [24] (fun i wr => ∃ k : Nat, k ≤ n ∧ i = .int .i64 k ∧ OwnRow wr w.heap.size 5 (vals (putK zs p x k)) ∧ Below w.heap.size w wr) (fun i _ => n - (intOf i).toNat)
  case atStart => exact ⟨0, Nat.zero_le _, rfl, hrow2, hbel2⟩
  case round =>
    obtain ⟨k, hk, rfl, hrow, hbel⟩ := hrel
    by_cases hlt : k < n
    · have hcell : wr.cell? ⟨w.heap.size, p + k, none⟩ = some (.int .u8 ((putK zs p x k).getD (p + k) 0)) := by
        rw [hrow.cell]; exact vals_get _ _ (by rw [length_putK, HL.out]; omega)
      have hfree : wr.frozen? ⟨w.heap.size, p + k, none⟩ = false := hrow.free _
      have R : Hid (OwnRow (wr.setCell ⟨w.heap.size, p + k, none⟩ (.int .u8 (x / 2 ^ (8 * k) % 256))) w.heap.size 5 (vals (putK zs p x (k + 1)))) := by
        rw [byte_form]; have := hrow.set (p + k) (.int .u8 (byteK x k)); rw [vals_set] at this; exact this
      clear hrow
      go_wp2
      go_roundw
      case rel => exact ⟨k + 1, by omega, by go_num, R.out, hbel.setCell (Nat.le_refl _) _⟩
      case measure => simp [intOf]; omega
    · go_wp2
      go_ret2
      obtain rfl : k = n := by omega
      exact ⟨rfl, hbel, hrow⟩

/-- What Put answers: the new bytes, or none. -/
def putV (zs : List Int) (p n x : Int) : List Int := if hasB zs.length p n then putK zs p.toNat x n.toNat else []

theorem putV_len (zs : List Int) (p n x : Int) : (putV zs p n x).length ≤ zs.length := by unfold putV; split <;> simp [length_putK]

theorem put_any (v : Value) (zs : List Int) (p n x : Int) (w : World) (h : IsBytes w v zs) :
    Calls Try.prog 31 #[v, .int .i64 p, .int .i64 n, .int .i64 x] w fun e w' => ∃ v', e = .returned (.tuple #[v', .int .i64 (errV zs p n)]) ∧ IsBytes w' v' (putV zs p n x) ∧ Below w.heap.size w w' := by
  obtain ⟨a, cap, rfl, h1, h2, h3, h4⟩ := h
  have hl : zs.length ≤ maxLen := by unfold maxLen; omega
  by_cases hb : hasB zs.length p n = true
  · obtain ⟨g1, g2, g3, g4⟩ := hasB_iff.1 hb
    obtain ⟨P, rfl⟩ := Int.eq_ofNat_of_zero_le g3
    obtain ⟨N, rfl⟩ := Int.eq_ofNat_of_zero_le (show 0 ≤ n by omega)
    obtain ⟨b, off, rfl, hc⟩ := h4 (by omega)
    refine (put_ok b off zs.length cap zs P N x w (by omega) rfl (by omega) (by omega) (by omega) hc).mono ?_
    rintro e w' ⟨rfl, hbel, hrow⟩
    have hv : putV zs P N x = putK zs P x N := by simp [putV, hb]
    have he : errV zs P N = 0 := by simp [errV, hb]
    have hlen : (putK zs P x N).length = zs.length := length_putK _ _ _ _
    rw [hv, he]
    have hi := isBytes_own hrow (putK_bytes zs h3 P x N) (by omega)
    rw [hlen] at hi
    exact ⟨_, rfl, hi, hbel⟩
  · have hb' : hasB zs.length p n = false := by simpa using hb
    refine (put_bad a zs.length cap p n x w hl hb').mono ?_
    rintro e w' ⟨rfl, rfl⟩
    have hv : putV zs p n x = [] := by simp [putV, hb']
    have he : errV zs p n = 2 := by simp [errV, hb']
    rw [hv, he]
    exact ⟨_, rfl, isBytes_nil w, Below.refl _ _⟩

set_option maxHeartbeats 400000 in
theorem frame_any (n : Int) (w : World) :
    Calls Try.prog 32 #[.int .i64 n] w fun e w' => e = .returned (.int .i64 (if 0 ≤ n ∧ n < 64 then 64 * n else -1)) ∧ w = w' := by
  by_cases h : 0 ≤ n ∧ n < 64
  · obtain ⟨h1, h2⟩ := h
    rw [if_pos ⟨h1, h2⟩]
    have h3 : ¬ n < 0 := by omega
    have h4 : ¬ (64 : Int) ≤ n := by omega
    go_enter Try.func32, Try.ntmps32
    go_wp2
    all_goals (go_ret; exact ⟨ret_int (by omega), rfl⟩)
  · rw [if_neg h]
    go_enter Try.func32, Try.ntmps32
    go_wp2
    all_goals first | (exfalso; omega) | (go_ret; exact ⟨rfl, rfl⟩)
end Go.Proofs.Ytgdmkmhpdijokac

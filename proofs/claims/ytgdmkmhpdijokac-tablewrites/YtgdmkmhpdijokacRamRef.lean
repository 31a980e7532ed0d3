/- The contracts of the document's own answers, framewardenref.AGet and APut: they answer what ram.Get and ram.Put answer. -/
import Derived.Test.YtgdmkmhpdijokacRam
import Derived.Laws.BytesArg
import Derived.Laws.Bits64
namespace Go.Proofs.Ytgdmkmhpdijokac
open Go.RowKit

set_option maxHeartbeats 400000 in
theorem aget_ok (b off len cap : Nat) (zs : List Int) (p n : Nat) (w : World) (hl : len ≤ maxLen) (h1 : 1 ≤ n) (h4 : n ≤ 4) (hpn : p + n ≤ len)
    (hz : Bytes zs) (hc : ∀ i, i < len → w.cell? ⟨b, off + i, none⟩ = some (.int .u8 (zs.getD i 0))) :
    Calls Try.prog 19 #[.slice (some ⟨b, off, none⟩) len cap, .int .i64 p, .int .i64 n] w fun e w' => e = .returned (.tuple #[.int .i64 (getN zs p n), .int .i64 0]) ∧ w = w' := by
  unfold maxLen at hl
  go_enter Try.func19, Try.ntmps19
  go_wp2
  go_loop [8, 9] (fun v i => ∃ j : Nat, j ≤ n ∧ i = .int .i64 ((j : Int) - 1) ∧ v = .int .i64 (getN zs (p + j) (n - j))) (fun _ i => (intOf i + 1).toNat)
  case atStart => exact ⟨n, Nat.le_refl _, rfl, by simp [getN]⟩
  case round =>
    obtain ⟨j, hj, rfl, rfl⟩ := hrel
    by_cases h0 : 0 < j
    · obtain ⟨i, rfl⟩ : ∃ i, j = i + 1 := ⟨j - 1, by omega⟩
      have hzk := hz (p + i)
      have hg := getN_small zs (p + (i + 1)) (n - (i + 1)) hz (by omega)
      have hck := hc (p + i) (by omega)
      have HS : Hid (getN zs (p + i) (n - i) = zs.getD (p + i) 0 + 256 * getN zs (p + (i + 1)) (n - (i + 1))) := by
        show _ = _
        rw [show n - i = (n - (i + 1)) + 1 from by omega, getN_cons]; rfl
      have e1 : ((i + 1 : Nat) : Int) - 1 = (i : Int) := by omega
      rw [e1]
      clear e1
      go_wp2
      go_round
      case rel =>
        refine ⟨i, by omega, rfl, congrArg (Value.int .i64) ?_⟩
        rw [HS.out]
        rw [List.getD_eq_getElem?_getD] at *
        unfold wrap64
        omega
      case measure => simp [intOf]
    · obtain rfl : j = 0 := by omega
      go_wp2
      go_ret2
      exact ⟨rfl, rfl⟩

set_option maxHeartbeats 400000 in
theorem aget_bad (a : Option Addr) (len cap : Nat) (p n : Int) (w : World) (hl : len ≤ maxLen) (hb : hasB len p n = false) :
    Calls Try.prog 19 #[.slice a len cap, .int .i64 p, .int .i64 n] w fun e w' => e = .returned (.tuple #[.int .i64 0, .int .i64 2]) ∧ w = w' := by
  have hb' : ¬ (1 ≤ n ∧ n ≤ 4 ∧ 0 ≤ p ∧ p + n ≤ len) := by rw [← hasB_iff, hb]; simp
  clear hb
  unfold maxLen at hl
  go_enter Try.func19, Try.ntmps19
  go_wp2
  all_goals first
    | (go_ret2; exact ⟨rfl, rfl⟩)
    | (exfalso; omega)

theorem aget_any (v : Value) (zs : List Int) (p n : Int) (w : World) (h : IsBytes w v zs) :
    Calls Try.prog 19 #[v, .int .i64 p, .int .i64 n] w fun e w' => e = .returned (.tuple #[.int .i64 (getV zs p n), .int .i64 (errV zs p n)]) ∧ w = w' := by
  obtain ⟨a, cap, rfl, h1, h2, h3, h4⟩ := h
  have hl : zs.length ≤ maxLen := by unfold maxLen; omega
  by_cases hb : hasB zs.length p n = true
  · obtain ⟨g1, g2, g3, g4⟩ := hasB_iff.1 hb
    obtain ⟨P, rfl⟩ := Int.eq_ofNat_of_zero_le g3
    obtain ⟨N, rfl⟩ := Int.eq_ofNat_of_zero_le (show 0 ≤ n by omega)
    obtain ⟨b, off, rfl, hc⟩ := h4 (by omega)
    refine (aget_ok b off zs.length cap zs P N w hl (by omega) (by omega) (by omega) h3 hc).mono ?_
    rintro e w' ⟨rfl, rfl⟩
    simp [getV, errV, hb]
  · have hb' : hasB zs.length p n = false := by simpa using hb
    refine (aget_bad a zs.length cap p n w hl hb').mono ?_
    rintro e w' ⟨rfl, rfl⟩
    simp [getV, errV, hb']

set_option maxHeartbeats 400000 in
theorem aput_bad (v : Value) (zs : List Int) (p n x : Int) (w : World) (h : IsBytes w v zs) (hb : hasB zs.length p n = false) :
    Calls Try.prog 23 #[v, .int .i64 p, .int .i64 n, .int .i64 x] w fun e w' => e = .returned (.tuple #[.slice none 0 0, .int .i64 2]) ∧ w = w' := by
  have he : errV zs p n = 2 := by simp [errV, hb]
  go_enter Try.func23, Try.ntmps23
  go_wp2_with (go_at_call 19; go_must (refine (aget_any v zs _ _ _ h).mono ?_); rintro e w' ⟨rfl, rfl⟩)
  go_ret2
  exact ⟨rfl, rfl⟩

/-- What is left of the number's 64 bits behind k places. -/
def leftU (x : Int) (p n k : Nat) : Int := x % 18446744073709551616 / 256 ^ min (k - p) n

theorem leftU_bd (x : Int) (p n k : Nat) : 0 ≤ leftU x p n k ∧ leftU x p n k < 18446744073709551616 := by
  unfold leftU
  have hp : (0 : Int) < 256 ^ min (k - p) n := Int.pow_pos (by decide)
  refine ⟨Int.ediv_nonneg (by omega) (by omega), Int.ediv_lt_of_lt_mul hp ?_⟩
  have : (18446744073709551616 : Int) * 1 ≤ 18446744073709551616 * 256 ^ min (k - p) n := Int.mul_le_mul_of_nonneg_left (by omega) (by omega)
  omega

theorem leftU_in (x : Int) (p n k : Nat) (h1 : p ≤ k) (h2 : k < p + n) : leftU x p n (k + 1) = leftU x p n k / 256 := by
  unfold leftU
  rw [show min (k + 1 - p) n = min (k - p) n + 1 from by omega, Int.pow_succ, Int.ediv_ediv_of_nonneg (Int.le_of_lt (Int.pow_pos (by decide)))]

theorem leftU_out (x : Int) (p n k : Nat) (h : ¬ (p ≤ k ∧ k < p + n)) : leftU x p n (k + 1) = leftU x p n k := by
  unfold leftU
  rw [show min (k + 1 - p) n = min (k - p) n from by omega]

theorem leftU_byte (x : Int) (p n k : Nat) (hn : n ≤ 4) (h1 : p ≤ k) (h2 : k < p + n) : leftU x p n k % 256 = byteK x (k - p) := by
  unfold leftU
  rw [show min (k - p) n = k - p from by omega]
  exact byte_u64 x (k - p) (by omega)

set_option maxHeartbeats 800000 in
theorem aput_ok (b off len cap : Nat) (zs : List Int) (p n : Nat) (x : Int) (w : World) (hl : len ≤ 140737488351232) (hlen : zs.length = len) (h1 : 1 ≤ n) (h4 : n ≤ 4) (hpn : p + n ≤ len) (hcap : len ≤ cap)
    (hz : Bytes zs) (hc : ∀ i, i < len → w.cell? ⟨b, off + i, none⟩ = some (.int .u8 (zs.getD i 0))) :
    Calls Try.prog 23 #[.slice (some ⟨b, off, none⟩) len cap, .int .i64 p, .int .i64 n, .int .i64 x] w fun e w' => ∃ v', e = .returned (.tuple #[v', .int .i64 0]) ∧
      Below w.heap.size w w' ∧ w'.ownsRow w.heap.size 5 1 v' len (vals (putK zs p x n)) := by
  have hbts : IsBytes w (.slice (some ⟨b, off, none⟩) len cap) zs := ⟨_, cap, by rw [hlen], by omega, by omega, hz, fun _ => ⟨b, off, rfl, fun i hi => hc i (by omega)⟩⟩
  have he : errV zs p n = 0 := by
    have : hasB zs.length p n = true := hasB_iff.2 (by omega)
    simp [errV, this]
  have hbl : b < w.heap.size := cell_lt (hc 0 (by omega))
  obtain ⟨i0, hi, hz0, hz1, hz2⟩ := info_parts Try.infoU8
  have HL : Hid (zs.length = len) := hlen
  clear hlen
  go_enter Try.func23, Try.ntmps23
  go_wp2_with (go_at_call 19; go_must (refine (aget_any _ zs _ _ _ hbts).mono ?_); rintro e w' ⟨rfl, rfl⟩)
  go_loopw [12, 13, 30] (fun v y i wr => ∃ k : Nat, k ≤ len ∧ i = .int .i64 k ∧ y = .int .u64 (leftU x p n k) ∧ wr.ownsRow w.heap.size 5 1 v k (vals ((putK zs p x n).take k)) ∧ Below w.heap.size w wr) (fun _ _ i _ => len - (intOf i).toNat)
  case atStart => exact ⟨0, Nat.zero_le _, rfl, by simp [leftU, IntKind.wrap_u64], World.ownsRow_nil _ _ _ _, Below.refl _ _⟩
  case round =>
    obtain ⟨k, hk, rfl, rfl, hown, hbel⟩ := hrel
    by_cases hlt : k < len
    · have hck : wr.cell? ⟨b, off + k, none⟩ = some (.int .u8 (zs.getD k 0)) := (hbel.cell (by exact hbl)).trans (hc k hlt)
      have hlu := leftU_bd x p n k
      by_cases hin : p ≤ k ∧ k < p + n
      · obtain ⟨hi1, hi2⟩ := hin
        go_wp2_with (at_builtin; go_must (refine wpList_append_one rfl _ _ 22 rfl w.heap.size 5 i0 (.int .u8 0) 1 Try.underlying22 hi hz0 hz1 hz2 rfl _ k _ rfl hown _ rfl rfl (by unfold maxLen; omega) (by omega) w hbel hbel.size ?_); intro v' w' hown' hbel')
        go_roundw
        case rel =>
          refine ⟨k + 1, by omega, by go_num, by rw [leftU_in x p n k hi1 hi2], ?_, hbel'⟩
          rw [leftU_byte x p n k h4 hi1 hi2] at hown'
          rw [putK_take zs p x n k (by rw [HL.out]; exact hlt), if_pos ⟨hi1, hi2⟩, vals_snoc]
          exact hown'
        case measure => simp [intOf]; omega
      · have hout : Hid (¬ (p ≤ k ∧ k < p + n)) := hin
        rcases (show k < p ∨ p + n ≤ k by omega) with hi1 | hi1
        all_goals
          clear hin
          go_wp2_with (at_builtin; go_must (refine wpList_append_one rfl _ _ 22 rfl w.heap.size 5 i0 (.int .u8 0) 1 Try.underlying22 hi hz0 hz1 hz2 rfl _ k _ rfl hown _ rfl rfl (by unfold maxLen; omega) (by omega) w hbel hbel.size ?_); intro v' w' hown' hbel')
          go_roundw
          case rel =>
            refine ⟨k + 1, by omega, by go_num, by rw [leftU_out x p n k hout.out], ?_, hbel'⟩
            rw [putK_take zs p x n k (by rw [HL.out]; exact hlt), if_neg hout.out, vals_snoc, List.getD_eq_getElem?_getD]
            exact hown'
          case measure => simp [intOf]; omega
    · go_wp2
      go_ret2
      obtain rfl : k = len := by omega
      refine ⟨_, rfl, hbel, ?_⟩
      rw [List.take_of_length_le (by rw [length_putK, HL.out]; exact Nat.le_refl _)] at hown
      exact hown

theorem aput_any (v : Value) (zs : List Int) (p n x : Int) (w : World) (h : IsBytes w v zs) :
    Calls Try.prog 23 #[v, .int .i64 p, .int .i64 n, .int .i64 x] w fun e w' => ∃ v', e = .returned (.tuple #[v', .int .i64 (errV zs p n)]) ∧ IsBytes w' v' (putV zs p n x) ∧ Below w.heap.size w w' := by
  by_cases hb : hasB zs.length p n = true
  · obtain ⟨a, cap, rfl, h1, h2, h3, h4⟩ := h
    obtain ⟨g1, g2, g3, g4⟩ := hasB_iff.1 hb
    obtain ⟨P, rfl⟩ := Int.eq_ofNat_of_zero_le g3
    obtain ⟨N, rfl⟩ := Int.eq_ofNat_of_zero_le (show 0 ≤ n by omega)
    obtain ⟨b, off, rfl, hc⟩ := h4 (by omega)
    refine (aput_ok b off zs.length cap zs P N x w h2 rfl (by omega) (by omega) (by omega) h1 h3 hc).mono ?_
    rintro e w' ⟨v', rfl, hbel, hown⟩
    have hv : putV zs P N x = putK zs P x N := by simp [putV, hb]
    have he : errV zs P N = 0 := by simp [errV, hb]
    have hlen : (putK zs P x N).length = zs.length := length_putK _ _ _ _
    rw [hv, he]
    rw [← hlen] at hown
    exact ⟨_, rfl, isBytes_owns hown (putK_bytes zs h3 P x N) (by omega), hbel⟩
  · have hb' : hasB zs.length p n = false := by simpa using hb
    refine (aput_bad v zs p n x w h hb').mono ?_
    rintro e w' ⟨rfl, rfl⟩
    have hv : putV zs p n x = [] := by simp [putV, hb']
    have he : errV zs p n = 2 := by simp [errV, hb']
    rw [hv, he]
    exact ⟨_, rfl, isBytes_nil w, Below.refl _ _⟩
end Go.Proofs.Ytgdmkmhpdijokac

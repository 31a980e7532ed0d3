/- The contracts of package tags' Set and New over the loaded program: what each call returns, and that nothing that was there is written. -/
import Derived.Test.YtocempcoddahiabTags1
namespace Go.Proofs.Ytocempcoddahiab
open Go.RowKit

def tokB (len : Nat) (p n t : Int) : Bool := decide (0 ≤ t ∧ t ≤ 15 ∧ 0 ≤ n ∧ 0 ≤ p ∧ p + n ≤ 2 * len)
theorem tokB_iff {len : Nat} {p n t : Int} : tokB len p n t = true ↔ 0 ≤ t ∧ t ≤ 15 ∧ 0 ≤ n ∧ 0 ≤ p ∧ p + n ≤ 2 * len := by unfold tokB; simp

/-- What Set answers. -/
def tsetV (zs : List Int) (p n t : Int) : List Int := if tokB zs.length p n t then setK zs p.toNat t n.toNat else []
def tsetE (zs : List Int) (p n t : Int) : Int := if tokB zs.length p n t then 0 else 2

set_option maxHeartbeats 400000 in
theorem tset_bad (a : Option Addr) (len cap : Nat) (p n t : Int) (w : World) (hl : len ≤ 140737488351232) (hn : n ≤ 9223372036854775807) (hb : tokB len p n t = false) :
    Calls Try.prog 12 #[.slice a len cap, .int .i64 p, .int .i64 n, .int .i64 t] w fun e w' => e = .returned (.tuple #[.slice none 0 0, .int .i64 2]) ∧ w = w' := by
  have hb' : ¬ (0 ≤ t ∧ t ≤ 15 ∧ 0 ≤ n ∧ 0 ≤ p ∧ p + n ≤ 2 * len) := by rw [← tokB_iff, hb]; simp
  by_cases h0 : 0 ≤ t ∧ t ≤ 15
  · obtain ⟨h1, h2⟩ := h0
    have HB : thasB len p n = false := by rw [Bool.eq_false_iff, ne_eq, thasB_iff]; omega
    clear hb hb'
    go_enter Try.func12, Try.ntmps12
    go_wp2_with (go_at_call 26; refine (thas_any _ _ _ _ _ _ hl hn).mono ?_; rintro e w' ⟨rfl, rfl⟩)
    go_ret2
    exact ⟨rfl, rfl⟩
  · clear hb hb'
    rcases (show t < 0 ∨ 15 < t by omega) with h1 | h1
    all_goals
      clear h0
      go_enter Try.func12, Try.ntmps12
      go_wp2
      go_ret2
      exact ⟨rfl, rfl⟩

set_option maxHeartbeats 800000 in
theorem tset_ok (b off len cap : Nat) (zs : List Int) (p n : Nat) (t : Int) (w : World) (hl : len ≤ 140737488351232) (hlen : zs.length = len) (h0 : 0 ≤ t) (h15 : t ≤ 15) (hpn : p + n ≤ 2 * len) (hz : Bytes zs)
    (hc : ∀ i, i < len → w.cell? ⟨b, off + i, none⟩ = some (.int .u8 (zs.getD i 0))) :
    Calls Try.prog 12 #[.slice (some ⟨b, off, none⟩) len cap, .int .i64 p, .int .i64 n, .int .i64 t] w fun e w' => e = .returned (.tuple #[.slice (some ⟨w.heap.size, 0, none⟩) len len, .int .i64 0]) ∧
      Below w.heap.size w w' ∧ OwnRow w' w.heap.size 5 (vals (setK zs p t n)) := by
  have HB : thasB len p n = true := by rw [thasB_iff]; omega
  have hl2 : len ≤ maxLen := by unfold maxLen; omega
  obtain ⟨i0, hi, hz0, hz1, hz2⟩ := info_parts Try.infoU8
  have hby : i0.bytes * len ≤ 281474976710656 := by rw [hz2]; omega
  have hcs : Hid (∀ (w' : World), Below w.heap.size w w' → ∀ j v, (vals zs)[j]? = some v → w'.cell? ((⟨b, off, none⟩ : Addr).add j) = some v) := by
    intro w' hb j v hv
    have hj : j < len := by
      have := (List.getElem?_eq_some_iff.1 hv).1
      rw [length_vals] at this; omega
    rw [vals_get zs j (by omega)] at hv
    rw [add_none, hb.cell (cell_lt (hc j hj)), hc j hj, hv]
  have HL : Hid (zs.length = len) := hlen
  clear hlen hc
  go_enter Try.func12, Try.ntmps12
  go_wp2_with (first
    | (go_at_call 26; refine (thas_any _ _ _ _ _ _ hl (by omega)).mono ?_; rintro e w' ⟨rfl, rfl⟩)
    | (at_make; go_must (refine wpList_make_row _ rfl _ _ 31 rfl 5 i0 (.int .u8 0) Try.underlying31 hi hz0 hz1 rfl .i64 .i64 _ _ len rfl rfl rfl rfl hby hl2 ?_); intro w1 hrow hbel hsz)
    | (refine wpList_copy_row rfl (.tmp 29) (.tmp 30) 31 31 rfl 5 Try.underlying31 Try.sizeU8 _ _ len _ _ rfl rfl w.heap.size _ 5 hrow (vals zs) (by rw [length_vals]; exact HL.out) (by simp) (fun _ => ⟨rfl, _, rfl, hcs.out _ hbel⟩) (vals_one zs) w.heap.size w hbel (Nat.le_refl _) ?_; intro w2 hrow2 hbel2))
  clear hrow hbel hcs
  go_loopw [11] (fun i wr => ∃ g : Nat, p ≤ g ∧ g ≤ p + n ∧ i = .int .i64 g ∧ OwnRow wr w.heap.size 5 (vals (setK zs p t (g - p))) ∧ Below w.heap.size w wr) (fun i _ => p + n - (intOf i).toNat)
  case atStart => exact ⟨p, Nat.le_refl _, by omega, rfl, by rw [Nat.sub_self]; exact hrow2, hbel2⟩
  case round =>
    obtain ⟨g, hg1, hg2, rfl, hrow, hbel⟩ := hrel
    by_cases hlt : g < p + n
    · rcases (show g % 2 = 0 ∨ g % 2 = 1 by omega) with hpar | hpar
      · obtain ⟨j, hj⟩ : ∃ j, Hid (g = 2 * j + 0) := ⟨g / 2, by show g = _; omega⟩
        have hjl : j < len := by have := hj.out; omega
        have ht : Int.tdiv (g : Int) 2 = (j : Int) := by have := hj.out; rw [Int.tdiv_eq_ediv_of_nonneg (by omega)]; omega
        have hzj := setK_bytes zs hz p t h0 h15 (g - p) j
        have hst : setK zs p t (g + 1 - p) = (setK zs p t (g - p)).set j ((setK zs p t (g - p)).getD j 0 / 16 * 16 + t) := by
          rw [show g + 1 - p = (g - p) + 1 from by omega]
          show (setK zs p t (g - p)).set ((p + (g - p)) / 2) (half ((setK zs p t (g - p)).getD ((p + (g - p)) / 2) 0) t (p + (g - p))) = _
          have := hj.out
          rw [show p + (g - p) = g from by omega, show g / 2 = j from by omega]
          unfold half
          rw [if_pos (by omega)]
        have hcell : wr.cell? ⟨w.heap.size, j, none⟩ = some (.int .u8 ((setK zs p t (g - p)).getD j 0)) := by
          rw [hrow.cell]; exact vals_get _ _ (by rw [length_setK, HL.out]; omega)
        have hfree : wr.frozen? ⟨w.heap.size, j, none⟩ = false := hrow.free _
        have hbit := low_half ((setK zs p t (g - p)).getD j 0) t hzj.1 hzj.2 h0 h15
        have R : Hid (∀ w', OwnRow w' w.heap.size 5 (vals (setK zs p t (g - p))) → OwnRow (w'.setCell ⟨w.heap.size, j, none⟩ (.int .u8 ((setK zs p t (g - p)).getD j 0 / 16 * 16 + t))) w.heap.size 5 (vals (setK zs p t (g + 1 - p)))) := by
          intro w' hw'
          have := hw'.set j (.int .u8 ((setK zs p t (g - p)).getD j 0 / 16 * 16 + t))
          rw [vals_set, ← hst] at this; exact this
        clear hst
        generalize (setK zs p t (g - p)).getD j 0 = z at *
        have HR : Hid (OwnRow wr w.heap.size 5 (vals (setK zs p t (g - p)))) := hrow
        clear hrow hrow2
        go_wp2_with fail
        go_region_with (first | (go_at_call 27; refine (shift_even g _ (by have := hj.out; omega)).mono ?_; rintro e w3 ⟨rfl, rfl⟩))
        all_goals
          go_wp2
          go_roundw
          case rel => exact ⟨g + 1, by omega, by omega, by go_num, by (first | rw [hbit] | rw [Int.mul_comm t 16, hbit]); exact R.out _ (HR.out), (hbel.setCell (Nat.le_refl _) _).drew⟩
          case measure => simp [intOf]; omega
      · obtain ⟨j, hj⟩ : ∃ j, Hid (g = 2 * j + 1) := ⟨g / 2, by show g = _; omega⟩
        have hjl : j < len := by have := hj.out; omega
        have ht : Int.tdiv (g : Int) 2 = (j : Int) := by have := hj.out; rw [Int.tdiv_eq_ediv_of_nonneg (by omega)]; omega
        have hzj := setK_bytes zs hz p t h0 h15 (g - p) j
        have hst : setK zs p t (g + 1 - p) = (setK zs p t (g - p)).set j ((setK zs p t (g - p)).getD j 0 % 16 + 16 * t) := by
          rw [show g + 1 - p = (g - p) + 1 from by omega]
          show (setK zs p t (g - p)).set ((p + (g - p)) / 2) (half ((setK zs p t (g - p)).getD ((p + (g - p)) / 2) 0) t (p + (g - p))) = _
          have := hj.out
          rw [show p + (g - p) = g from by omega, show g / 2 = j from by omega]
          unfold half
          rw [if_neg (by omega)]
        have hcell : wr.cell? ⟨w.heap.size, j, none⟩ = some (.int .u8 ((setK zs p t (g - p)).getD j 0)) := by
          rw [hrow.cell]; exact vals_get _ _ (by rw [length_setK, HL.out]; omega)
        have hfree : wr.frozen? ⟨w.heap.size, j, none⟩ = false := hrow.free _
        have hbit := high_half ((setK zs p t (g - p)).getD j 0) t hzj.1 hzj.2 h0 h15
        have R : Hid (∀ w', OwnRow w' w.heap.size 5 (vals (setK zs p t (g - p))) → OwnRow (w'.setCell ⟨w.heap.size, j, none⟩ (.int .u8 ((setK zs p t (g - p)).getD j 0 % 16 + 16 * t))) w.heap.size 5 (vals (setK zs p t (g + 1 - p)))) := by
          intro w' hw'
          have := hw'.set j (.int .u8 ((setK zs p t (g - p)).getD j 0 % 16 + 16 * t))
          rw [vals_set, ← hst] at this; exact this
        clear hst
        generalize (setK zs p t (g - p)).getD j 0 = z at *
        have HR : Hid (OwnRow wr w.heap.size 5 (vals (setK zs p t (g - p)))) := hrow
        clear hrow hrow2
        go_wp2_with fail
        go_region_with (first | (go_at_call 27; refine (shift_odd g _ (by have := hj.out; omega)).mono ?_; rintro e w3 ⟨rfl, rfl⟩))
        all_goals
          go_wp2
          go_roundw
          case rel => exact ⟨g + 1, by omega, by omega, by go_num, by (first | rw [hbit] | rw [Int.mul_comm t 16, hbit]); exact R.out _ (HR.out), (hbel.setCell (Nat.le_refl _) _).drew⟩
          case measure => simp [intOf]; omega
    · go_wp2
      go_ret2
      obtain rfl : g = p + n := by omega
      rw [show p + n - p = n from by omega] at hrow
      exact ⟨rfl, hbel, hrow⟩

set_option maxHeartbeats 800000 in
theorem tset_none (a : Option Addr) (cap : Nat) (t : Int) (w : World) (h0 : 0 ≤ t) (h15 : t ≤ 15) :
    Calls Try.prog 12 #[.slice a 0 cap, .int .i64 0, .int .i64 0, .int .i64 t] w fun e w' => e = .returned (.tuple #[.slice (some ⟨w.heap.size, 0, none⟩) 0 0, .int .i64 0]) ∧ Below w.heap.size w w' := by
  have HB : thasB 0 0 0 = true := by rw [thasB_iff]; omega
  obtain ⟨i0, hi, hz0, hz1, hz2⟩ := info_parts Try.infoU8
  have hby : i0.bytes * 0 ≤ 281474976710656 := by omega
  have hl2 : 0 ≤ maxLen := Nat.zero_le _
  go_enter Try.func12, Try.ntmps12
  go_wp2_with (first
    | (go_at_call 26; refine (thas_any _ 0 _ 0 0 _ (by omega) (by omega)).mono ?_; rintro e w' ⟨rfl, rfl⟩)
    | (at_make; go_must (refine wpList_make_row _ rfl _ _ 31 rfl 5 i0 (.int .u8 0) Try.underlying31 hi hz0 hz1 rfl .i64 .i64 _ _ 0 rfl rfl rfl rfl hby hl2 ?_); intro w1 hrow hbel hsz)
    | (refine wpList_copy_row rfl (.tmp 29) (.tmp 30) 31 31 rfl 5 Try.underlying31 Try.sizeU8 _ _ 0 _ _ rfl rfl w.heap.size _ 5 hrow [] rfl rfl (fun h => absurd h (by omega)) (by intro v hv; simp at hv) w.heap.size w hbel (Nat.le_refl _) ?_; intro w2 hrow2 hbel2))
  go_loopw [11] (fun i wr => i = .int .i64 0 ∧ Below w.heap.size w wr) (fun i _ => 0)
  case atStart => exact ⟨rfl, hbel2⟩
  case round =>
    obtain ⟨rfl, hbel⟩ := hrel
    go_wp2
    go_ret2
    exact ⟨rfl, hbel⟩

theorem tset_any (v : Value) (zs : List Int) (p n t : Int) (w : World) (h : IsBytes w v zs) (hn : n ≤ 9223372036854775807) :
    Calls Try.prog 12 #[v, .int .i64 p, .int .i64 n, .int .i64 t] w fun e w' => ∃ v', e = .returned (.tuple #[v', .int .i64 (tsetE zs p n t)]) ∧ IsBytes w' v' (tsetV zs p n t) ∧ Below w.heap.size w w' := by
  obtain ⟨a, cap, rfl, h1, h2, h3, h4⟩ := h
  by_cases hb : tokB zs.length p n t = true
  · obtain ⟨g1, g2, g3, g4, g5⟩ := tokB_iff.1 hb
    have hv : tsetV zs p n t = setK zs p.toNat t n.toNat := by simp [tsetV, hb]
    have he : tsetE zs p n t = 0 := by simp [tsetE, hb]
    rw [hv, he]
    obtain ⟨P, rfl⟩ := Int.eq_ofNat_of_zero_le g4
    obtain ⟨N, rfl⟩ := Int.eq_ofNat_of_zero_le g3
    simp only [Int.toNat_natCast]
    by_cases hp : 0 < zs.length
    · obtain ⟨b, off, rfl, hc⟩ := h4 hp
      refine (tset_ok b off zs.length cap zs P N t w h2 rfl g1 g2 (by omega) h3 hc).mono ?_
      rintro e w' ⟨rfl, hbel, hrow⟩
      have hlen : (setK zs P t N).length = zs.length := length_setK _ _ _ _
      have hi := isBytes_own hrow (setK_bytes zs h3 P t g1 g2 N) (by omega)
      rw [hlen] at hi
      exact ⟨_, rfl, hi, hbel⟩
    · obtain rfl : zs = [] := List.eq_nil_of_length_eq_zero (by omega)
      simp only [List.length_nil] at g5
      obtain rfl : P = 0 := by omega
      obtain rfl : N = 0 := by omega
      refine (tset_none a cap t w g1 g2).mono ?_
      rintro e w' ⟨rfl, hbel⟩
      exact ⟨_, rfl, ⟨_, 0, rfl, Nat.le_refl _, Nat.zero_le _, h3, fun h => absurd h (Nat.lt_irrefl 0)⟩, hbel⟩
  · have hb' : tokB zs.length p n t = false := by simpa using hb
    refine (tset_bad a zs.length cap p n t w h2 hn hb').mono ?_
    rintro e w' ⟨rfl, rfl⟩
    have hv : tsetV zs p n t = [] := by simp [tsetV, hb']
    have he : tsetE zs p n t = 2 := by simp [tsetE, hb']
    rw [hv, he]
    exact ⟨_, rfl, isBytes_nil w, Below.refl _ _⟩
end Go.Proofs.Ytocempcoddahiab

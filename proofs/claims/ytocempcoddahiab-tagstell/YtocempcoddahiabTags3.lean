/- The contracts of tags.New and framewardenkeep.alive3: what each call returns, and that nothing that was there is written. -/
import Derived.Test.YtocempcoddahiabTags2
namespace Go.Proofs.Ytocempcoddahiab
open Go.RowKit

/-- How many bytes so many granules take. -/
def newN (n : Int) : Nat := ((min (max n 0) 256 + 1) / 2).toNat

/-- So many cells, all 0. -/
def zrow (m : Nat) : Array Value := madeCells #[.int .u8 0] m

theorem run_make_z (m : Nat) (hm : m ≤ 1000) (w : World) : (Instr.makeSlice 31 (.int .i64 (m : Int)) (.int .i64 (m : Int))).run Try.prog w = .ok (.slice (some ⟨w.heap.size, 0, none⟩) m m) (w.alloc (.cells (zrow m) 5)) := by
  obtain ⟨i0, hi, hz0, hz1, hz2⟩ := info_parts Try.infoU8
  have := run_make (P := Try.prog) w 31 5 i0 (.int .u8 0) Try.underlying31 hi hz0 .i64 .i64 (m : Int) (m : Int) (by omega) (by omega) (by rw [hz2]; omega) (by omega)
  rw [hz1, Int.toNat_natCast, Nat.mul_one] at this
  exact this

theorem newN_low {n : Int} (h : n < 0) : newN n = 0 := by unfold newN; omega
theorem newN_high {n : Int} (h : 256 < n) : newN n = 128 := by unfold newN; omega
theorem newN_mid {n : Int} (h : 0 ≤ n) (h2 : n ≤ 256) : (n + 2 - 1) / 2 = ((newN n : Nat) : Int) := by unfold newN; omega
theorem newN_mid' {n : Int} (h : 0 ≤ n) (h2 : n ≤ 256) : (n + 1) / 2 = ((newN n : Nat) : Int) := by unfold newN; omega
theorem newN_le (n : Int) : newN n ≤ 128 := by unfold newN; omega

theorem run_make_0 (w : World) : (Instr.makeSlice 31 (.int .i64 0) (.int .i64 0)).run Try.prog w = .ok (.slice (some ⟨w.heap.size, 0, none⟩) 0 0) (w.alloc (.cells (zrow 0) 5)) := run_make_z 0 (by omega) w
theorem run_make_128 (w : World) : (Instr.makeSlice 31 (.int .i64 128) (.int .i64 128)).run Try.prog w = .ok (.slice (some ⟨w.heap.size, 0, none⟩) 128 128) (w.alloc (.cells (zrow 128) 5)) := run_make_z 128 (by omega) w

set_option maxHeartbeats 400000 in
theorem tnew_any (n : Int) (w : World) : Calls Try.prog 14 #[.int .i64 n] w fun e w' => e = .returned (.slice (some ⟨w.heap.size, 0, none⟩) (newN n) (newN n)) ∧ w.alloc (.cells (zrow (newN n)) 5) = w' := by
  by_cases h1 : n < 0
  · rw [newN_low h1]
    have hmk := run_make_0
    go_enter Try.func14, Try.ntmps14
    go_wp2
    go_ret
    exact ⟨rfl, rfl⟩
  by_cases h2 : 256 < n
  · rw [newN_high h2]
    have hmk := run_make_128
    go_enter Try.func14, Try.ntmps14
    go_wp2
    go_ret
    exact ⟨rfl, rfl⟩
  have hd := newN_mid (n := n) (by omega) (by omega)
  have hle := newN_le n
  generalize newN n = m at *
  have hmk := run_make_z m (by omega)
  go_enter Try.func14, Try.ntmps14
  go_wp2
  go_ret
  exact ⟨rfl, rfl⟩

set_option maxHeartbeats 400000 in
theorem alive3_any (w : World) : Calls Try.prog 15 #[] w fun e w' => e = .returned (.bool true) ∧ Below w.heap.size w w' := by
  go_enter Try.func15, Try.ntmps15
  go_wp2_with fail
  refine (tnew_any 5 w).mono ?_
  rintro e w1 ⟨rfl, hw1⟩
  have hbel1 : Below w.heap.size w w1 := by rw [← hw1]; exact (Below.refl _ _).alloc (Nat.le_refl _) _
  have hb1 : IsBytes w1 (.slice (some ⟨w.heap.size, 0, none⟩) 3 3) [0, 0, 0] := by rw [← hw1]; exact zero_gen 3 (heap_alloc_new _ _) (by omega)
  rw [show newN 5 = 3 from by decide]
  clear hw1
  go_wp2_with fail
  refine (tset_any _ [0, 0, 0] 1 2 9 w1 hb1 (by omega)).mono ?_
  rintro e w2 ⟨v2, rfl, hb2, hbel2⟩
  rw [show tsetE [0, 0, 0] 1 2 9 = 0 from by decide]
  rw [show tsetV [0, 0, 0] 1 2 9 = [144, 9, 0] from by decide] at hb2
  go_wp2_with fail
  refine (tget_any _ [144, 9, 0] 2 w2 hb2).mono ?_
  rintro e w3 ⟨rfl, hbel3⟩
  rw [show tgetE [144, 9, 0] 2 = 0 from by decide, show tgetV [144, 9, 0] 2 = 9 from by decide]
  have hs := str_of (hb2.below hbel3)
  have hseq : (strOfNums [144, 9, 0]).toList = [144, 9, 0] := by decide +kernel
  go_wp2
  go_ret
  exact ⟨rfl, (hbel1.trans (hbel2.mono hbel1.size)).trans (hbel3.mono (by have := hbel1.size; have := hbel2.size; omega))⟩
end Go.Proofs.Ytocempcoddahiab

/- The contract of framewardenkeep.alive1: it returns true and writes nothing that was there. -/
import Derived.Test.YtgjkijakknfkcaaRam
import Derived.Laws.BytesArg
namespace Go.Proofs.Ytgjkijakknfkcaa
open Go.RowKit

theorem str_of {w : World} {v : Value} {zs : List Int} (h : IsBytes w v zs) : (convert 22 9 v).run Try.prog w = .ok (.string (strOfNums zs)) w := by
  obtain ⟨a, cap, rfl, h1, h2, h3, h4⟩ := h
  by_cases h0 : 0 < zs.length
  · obtain ⟨b, off, rfl, hc⟩ := h4 h0
    exact run_convert_bytes_arg w 22 5 Try.underlying22 Try.underlying5 b off zs.length cap zs rfl hc 9 Try.underlying9
  · obtain rfl : zs = [] := List.eq_nil_of_length_eq_zero (by omega)
    cases a with
    | none => exact run_convert_bytes_nil w 22 5 Try.underlying22 Try.underlying5 0 cap 9 Try.underlying9
    | some ad =>
      rw [run_convert_bytes_string w 22 9 5 _ _ _ Try.underlying22 Try.underlying5 Try.underlying9]
      have hl := run_loadCells_list (P := Try.prog) w ad [] (fun j v hj => by simp at hj)
      exact run_bytesToString w ad 0 cap [] hl

set_option maxHeartbeats 400000 in
theorem alive1_any (w : World) : Calls Try.prog 12 #[] w fun e w' => e = .returned (.bool true) ∧ Below w.heap.size w w' := by
  obtain ⟨i0, hi, hz0, hz1, hz2⟩ := info_parts Try.infoU8
  have hby : i0.bytes * 6 ≤ 281474976710656 := by rw [hz2]; omega
  have hm : 6 ≤ maxLen := by unfold maxLen; omega
  go_enter Try.func12, Try.ntmps12
  go_wp2_with (at_make; go_must (refine wpList_make_row _ rfl _ _ 22 rfl 5 i0 (.int .u8 0) Try.underlying22 hi hz0 hz1 rfl .i64 .i64 _ _ 6 rfl rfl rfl rfl hby hm ?_); intro w1 hrow hbel hsz)
  have hb1 : IsBytes w1 (.slice (some ⟨w.heap.size, 0, none⟩) 6 6) [0, 0, 0, 0, 0, 0] := isBytes_own (zs := [0, 0, 0, 0, 0, 0]) hrow (by intro i; match i with | 0 | 1 | 2 | 3 | 4 | 5 => simp | i + 6 => simp) (by simp)
  refine (put_any _ [0, 0, 0, 0, 0, 0] 1 3 16909060 w1 hb1).mono ?_
  rintro e w2 ⟨v2, rfl, hb2, hbel2⟩
  rw [show errV [0, 0, 0, 0, 0, 0] 1 3 = 0 from by decide]
  rw [show putV [0, 0, 0, 0, 0, 0] 1 3 16909060 = [0, 4, 3, 2, 0, 0] from by decide] at hb2
  go_wp2_with fail
  refine (get_any _ [0, 4, 3, 2, 0, 0] 2 2 w2 hb2).mono ?_
  rintro e w3 ⟨rfl, rfl⟩
  rw [show errV [0, 4, 3, 2, 0, 0] 2 2 = 0 from by decide, show getV [0, 4, 3, 2, 0, 0] 2 2 = 515 from by decide]
  have hs := str_of hb2
  have hseq : (strOfNums [0, 4, 3, 2, 0, 0]).toList = [0, 4, 3, 2, 0, 0] := by decide +kernel
  go_wp2_with (go_at_call 10; refine (frame_any _ _).mono ?_; rintro e w' ⟨rfl, rfl⟩)
  go_ret
  exact ⟨rfl, hbel.trans (hbel2.mono (by omega))⟩
end Go.Proofs.Ytgjkijakknfkcaa

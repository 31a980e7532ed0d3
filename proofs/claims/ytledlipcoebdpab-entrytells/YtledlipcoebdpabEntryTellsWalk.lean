/- entry.Pack and Unpack answer as the document's own: framewardenlaw.EntryTells returns true at every entry and every number. -/
import Derived.Test.YtledlipcoebdpabEntry3
namespace Go.Proofs.Ytledlipcoebdpab
open Go.RowKit
set_option linter.unusedSimpArgs false

set_option maxHeartbeats 800000 in
theorem entryTells_walk (x y v : Int) (w : World) (hv : (Lit.int .i64 v).wf = true) :
    Calls Try.prog 7 #[.agg #[.int .i64 x, .int .i64 y], .int .i64 v] w fun e w' => e = .returned (.bool true) ∧ Below w.heap.size w w' := by
  obtain ⟨W, hW⟩ : ∃ W, W = w.alloc (.cells #[.int .i64 x, .int .i64 y] 39) := ⟨_, rfl⟩
  have hbW : Below w.heap.size w W := by rw [hW]; exact (Below.refl _ _).alloc (Nat.le_refl _) _
  have hA : OwnRow W w.heap.size 39 [.int .i64 x, .int .i64 y] := by rw [hW]; exact heap_alloc_new w _
  go_enter Try.func7, Try.ntmps7
  go_wp2_with fail
  rw [← hW]
  clear hW
  refine (pack_any _ _ _).mono ?_
  rintro e w1 ⟨rfl, hb1⟩
  obtain ⟨⟨c0, c1⟩, -, -⟩ := (hA.below hb1 hA.lt).pair
  go_wp2_with fail
  refine (dpack_any _ _ _).mono ?_
  rintro e w2 ⟨rfl, hb2⟩
  have hbel2 := (hbW.trans (hb1.mono hbW.size)).trans (hb2.mono (by have := hbW.size; have := hb1.size; omega))
  go_wp2_with fail
  refine (unpack_any v _ hv).mono ?_
  rintro e w3 ⟨rfl, hb3⟩
  have hbel3 := hbel2.trans (hb3.mono hbel2.size)
  go_wp2_with fail
  refine (dunpack_any v _).mono ?_
  rintro e w4 ⟨rfl, hb4⟩
  have hown := own_one (xs := [_, _]) hb4
  have hbel4 : Below w.heap.size w w4 := hbel3.trans (((Below.refl _ _).alloc (Nat.le_refl _) _).trans (hb4.mono (by simp)) |>.mono hbel3.size)
  obtain ⟨⟨d0, d1⟩, f0, f1⟩ := hown.pair
  have hz := hown.lt
  clear hown hb4 hb3 hb2 hb1 hA c0 c1
  generalize pkV x y = A at *
  generalize pkE x y = B at *
  generalize upK v = C at *
  generalize upN v = D at *
  generalize upE v = E at *
  go_wp2
  go_ret
  exact ⟨rfl, hbel4.alloc hbel4.size _⟩
end Go.Proofs.Ytledlipcoebdpab

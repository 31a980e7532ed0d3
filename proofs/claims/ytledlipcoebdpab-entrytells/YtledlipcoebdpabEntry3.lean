/- framewardenkeep.alive4 answers true; what comes in as an entry reads as two numbers. -/
import Derived.Test.YtledlipcoebdpabEntry2
import Derived.Deep.SlicePairs
import Derived.Lib.SmallJoins
import Derived.OpenShut
import Derived.SizedLaws
namespace Go.Proofs.Ytledlipcoebdpab
open Go.ChangeShapes Go.WideShapes Go.ChangeAt Go.RowKit Go.Deep Go.Joins
set_option linter.unusedVariables false
set_option linter.unusedSimpArgs false

theorem cells_ent : Try.prog.cellsOf 39 = 2 := by kernel_rfl

theorem entry_open {H : Type} {enc : TypeId × Value → H} {w : World} {base b0 : Nat} {spare : Nat → Bool} {held : Bool} {r : Reach} {v : Value} {d : DataW H} {p : List MemPlace}
    (hv : Value.okWide Try.prog w r b0 39 v) (h : DataW.Trod enc Try.prog w base spare held 39 v d p) :
    ∃ x y : Int, v = .agg #[.int .i64 x, .int .i64 y] ∧ p = [] := by
  obtain ⟨v0, v1, y0, y1, n, rfl, rfl, rfl, h0, h1⟩ := open_agg2 Try.underlying39 (by kernel_rfl) cells_ent hv h
  obtain ⟨z0, e0, f0, -⟩ := DataW.trod_int Try.underlying3 h0
  obtain ⟨z1, e1, f1, -⟩ := DataW.trod_int Try.underlying3 h1
  simp only [List.cons.injEq, and_true] at e0 e1
  exact ⟨z0, z1, by rw [e0, e1], by rw [f0, f1]; rfl⟩

set_option maxHeartbeats 400000 in
theorem alive4_any (w : World) : Calls Try.prog 22 #[] w fun e w' => e = .returned (.bool true) ∧ Below w.heap.size w w' := by
  go_enter Try.func22, Try.ntmps22
  go_wp2_with fail
  refine (pack_any _ _ _).mono ?_
  rintro e w1 ⟨rfl, hb1⟩
  rw [show pkV 2 5 = 1282 from by decide, show pkE 2 5 = 0 from by decide]
  go_wp2_with fail
  refine (unpack_any 1 _ (by decide)).mono ?_
  rintro e w2 ⟨rfl, hb2⟩
  rw [show upK 1 = 1 from by decide, show upN 1 = 0 from by decide, show upE 1 = 0 from by decide]
  have hbw2 := hb1.trans (hb2.mono hb1.size)
  go_wp2_with fail
  refine (unpack_any 3 _ (by decide)).mono ?_
  rintro e w3 ⟨rfl, hb3⟩
  rw [show upK 3 = 0 from by decide, show upN 3 = 0 from by decide, show upE 3 = 1 from by decide]
  have hown := own_one (xs := [_, _]) hb3
  have hbw3 : Below w.heap.size w w3 := hbw2.trans (((Below.refl _ _).alloc (Nat.le_refl _) _).trans (hb3.mono (by simp)) |>.mono hbw2.size)
  obtain ⟨⟨c0, c1⟩, f0, f1⟩ := hown.pair
  have hz := hown.lt
  clear hown hb3
  go_wp2
  go_ret
  exact ⟨rfl, hbw3.alloc hbw3.size _⟩
end Go.Proofs.Ytledlipcoebdpab

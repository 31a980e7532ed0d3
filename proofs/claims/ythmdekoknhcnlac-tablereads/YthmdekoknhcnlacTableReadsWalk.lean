/- table.Leaf and Get answer as the document's own: framewardenlaw.TableReads returns true at every list of bytes, root and page. -/
import Derived.Test.YthmdekoknhcnlacTableRef1
namespace Go.Proofs.Ythmdekoknhcnlac
open Go.RowKit
set_option linter.unusedSimpArgs false

set_option maxHeartbeats 800000 in
theorem tableReads_walk (v : Value) (zs : List Int) (f p : Int) (w : World) (h : IsBytes w v zs) (_hf : (Lit.int .i64 f).wf = true) (_hp : (Lit.int .i64 p).wf = true) :
    Calls Try.prog 3 #[v, .int .i64 f, .int .i64 p] w fun e w' => e = .returned (.bool true) ∧ Below w.heap.size w w' := by
  go_enter Try.func3, Try.ntmps3
  go_wp2_with fail
  refine (tableLeaf_any v zs f p _ h).mono ?_
  rintro e w1 ⟨rfl, hb1⟩
  have h1 := h.below hb1
  go_wp2_with fail
  refine (eleaf_any v zs f p _ h1).mono ?_
  rintro e w2 ⟨rfl, hb2⟩
  have hbw2 := hb1.trans (hb2.mono hb1.size)
  have h2 := h.below hbw2
  clear hb1 hb2 h1
  go_wp2_with fail
  refine (tableGet_any v zs f p _ h2).mono ?_
  rintro e w3 ⟨rfl, hb3⟩
  have hbw3 := hbw2.trans (hb3.mono hbw2.size)
  have h3 := h.below hbw3
  clear hb3 h2 hbw2
  go_wp2_with fail
  refine (eget_any v zs f p _ (h3.below ((Below.refl _ _).alloc (Nat.le_refl _) _))).mono ?_
  rintro e w4 ⟨rfl, hb4⟩
  have hown := own_one (xs := [_, _]) hb4
  have hbw4 : Below w.heap.size w w4 := hbw3.trans (((Below.refl _ _).alloc (Nat.le_refl _) _).trans (hb4.mono (by simp)) |>.mono hbw3.size)
  obtain ⟨⟨d0, d1⟩, f0, f1⟩ := hown.pair
  have hz := hown.lt
  clear hown hb4 h3 hbw3
  generalize lfN zs f p = A at *
  generalize lfE zs f p = B at *
  generalize gtK zs f p = C at *
  generalize gtN zs f p = D at *
  generalize gtE zs f p = E at *
  go_wp2
  go_ret
  exact ⟨rfl, hbw4.alloc hbw4.size _⟩
end Go.Proofs.Ythmdekoknhcnlac

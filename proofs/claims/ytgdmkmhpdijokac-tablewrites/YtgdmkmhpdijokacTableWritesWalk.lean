/- table.Put and Link answer as the document's own: framewardenlaw.TableWrites returns true. -/
import Derived.Test.YtgdmkmhpdijokacTableRef2
import Derived.Test.YtgdmkmhpdijokacEntryOpen
namespace Go.Proofs.Ytgdmkmhpdijokac
open Go.RowKit
set_option linter.unusedSimpArgs false

set_option maxHeartbeats 1600000 in
theorem tableWrites_walk0 (v : Value) (zs : List Int) (f p x y l : Int) (w : World) (h : IsBytes w v zs) (hlk : lkL zs f p l = elL zs f p l) :
    Calls Try.prog 4 #[v, .int .i64 f, .int .i64 p, .agg #[.int .i64 x, .int .i64 y], .int .i64 l] w fun e w' => e = .returned (.bool true) ∧ Below w.heap.size w w' := by
  have Hput : Hid (∀ w1, IsBytes w1 v zs → Calls Try.prog 11 #[v, .int .i64 f, .int .i64 p, .agg #[.int .i64 x, .int .i64 y]] w1 fun e w' => ∃ v', e = .returned (.tuple #[v', .int .i64 (ptE zs f p x y)]) ∧ IsBytes w' v' (ptL zs f p x y) ∧ Below w1.heap.size w1 w') := fun w1 hi => tablePut_any v zs f p x y w1 hi
  have Heput : Hid (∀ w1, IsBytes w1 v zs → Calls Try.prog 12 #[v, .int .i64 f, .int .i64 p, .agg #[.int .i64 x, .int .i64 y]] w1 fun e w' => ∃ v', e = .returned (.tuple #[v', .int .i64 (ptE zs f p x y)]) ∧ IsBytes w' v' (ptL zs f p x y) ∧ Below w1.heap.size w1 w') := fun w1 hi => eput_any v zs f p x y w1 hi
  have Hlink : Hid (∀ w1, IsBytes w1 v zs → Calls Try.prog 13 #[v, .int .i64 f, .int .i64 p, .int .i64 l] w1 fun e w' => ∃ v', e = .returned (.tuple #[v', .int .i64 (lkE zs f p l)]) ∧ IsBytes w' v' (elL zs f p l) ∧ Below w1.heap.size w1 w') := by
    intro w1 hi; rw [← hlk]; exact tableLink_any v zs f p l w1 hi
  have Helink : Hid (∀ w1, IsBytes w1 v zs → Calls Try.prog 14 #[v, .int .i64 f, .int .i64 p, .int .i64 l] w1 fun e w' => ∃ v', e = .returned (.tuple #[v', .int .i64 (lkE zs f p l)]) ∧ IsBytes w' v' (elL zs f p l) ∧ Below w1.heap.size w1 w') := fun w1 hi => elink_any v zs f p l w1 hi
  clear hlk
  generalize ptE zs f p x y = PE at *
  generalize ptL zs f p x y = P at *
  generalize lkE zs f p l = KE at *
  generalize elL zs f p l = K at *
  obtain ⟨W, hW⟩ : ∃ W, W = w.alloc (.cells #[.int .i64 x, .int .i64 y] 27) := ⟨_, rfl⟩
  have hbW : Below w.heap.size w W := by rw [hW]; exact (Below.refl _ _).alloc (Nat.le_refl _) _
  have hA : OwnRow W w.heap.size 27 [.int .i64 x, .int .i64 y] := by rw [hW]; exact heap_alloc_new w _
  have h0 := h.below hbW
  go_enter Try.func4, Try.ntmps4
  go_wp2_with fail
  rw [← hW]
  clear hW
  refine (Hput.out _ h0).mono ?_
  rintro e w1 ⟨v1, rfl, hi1, hb1⟩
  have hA1 := hA.below hb1 hA.lt
  have hbw1 := hbW.trans (hb1.mono hbW.size)
  have h1 := h.below hbw1
  clear hA hb1 hbW h0 Hput
  obtain ⟨⟨c0, c1⟩, -, -⟩ := hA1.pair
  go_wp2_with fail
  refine (Heput.out _ h1).mono ?_
  rintro e w2 ⟨v2, rfl, hi2, hb2⟩
  have hbw2 := hbw1.trans (hb2.mono hbw1.size)
  have h2 := h.below hbw2
  have hi12 := hi1.below hb2
  clear hA1 hb2 hbw1 h1 hi1 c0 c1 Heput
  go_wp2_with fail
  refine (Hlink.out _ h2).mono ?_
  rintro e w3 ⟨v3, rfl, hi3, hb3⟩
  have hbw3 := hbw2.trans (hb3.mono hbw2.size)
  have h3 := h.below hbw3
  have hi13 := hi12.below hb3
  have hi23 := hi2.below hb3
  clear hb3 hbw2 h2 hi12 hi2 Hlink
  go_wp2_with fail
  refine (Helink.out _ h3).mono ?_
  rintro e w4 ⟨v4, rfl, hi4, hb4⟩
  have hbw4 := hbw3.trans (hb4.mono hbw3.size)
  have hi14 := hi13.below hb4
  have hi24 := hi23.below hb4
  have hi34 := hi3.below hb4
  clear hb4 hbw3 h3 hi13 hi23 hi3 Helink
  have s1 := str_of hi14
  have s2 := str_of hi24
  have s3 := str_of hi34
  have s4 := str_of hi4
  clear hi14 hi24 hi34 hi4
  generalize strOfNums P = A at *
  generalize strOfNums K = B at *
  go_wp2
  go_ret
  exact ⟨rfl, hbw4⟩

theorem tableWrites_walk (v : Value) (zs : List Int) (f p x y l : Int) (w : World) (h : IsBytes w v zs) (_ : (Lit.int .i64 f).wf = true) (_ : (Lit.int .i64 p).wf = true) (_ : (Lit.int .i64 l).wf = true) :
    Calls Try.prog 4 #[v, .int .i64 f, .int .i64 p, .agg #[.int .i64 x, .int .i64 y], .int .i64 l] w fun e w' => e = .returned (.bool true) ∧ Below w.heap.size w w' :=
  tableWrites_walk0 v zs f p x y l w h rfl
end Go.Proofs.Ytgdmkmhpdijokac

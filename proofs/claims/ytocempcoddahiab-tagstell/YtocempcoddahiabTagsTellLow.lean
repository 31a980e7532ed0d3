/- framewardenlaw.TagsTell returns true at every slice of bytes within the form's own reach, where the number of granules is below 0. -/
import Derived.Test.YtocempcoddahiabTagsRef
import Derived.Test.YtocempcoddahiabTagsZero
import Derived.Deep.RegionHeld
import Derived.BigRegion
namespace Go.Proofs.Ytocempcoddahiab
open Go.RowKit

set_option maxHeartbeats 8000000 in
theorem tagsTell_low (v : Value) (zs : List Int) (p n t m : Int) (w : World) (h : IsBytes w v zs) (hn : n ≤ 9223372036854775807) (M : Nat) (hM : M ≤ 128) (hmk : ∀ w : World, (Instr.makeSlice 31 (.int .i64 (M : Int)) (.int .i64 (M : Int))).run Try.prog w = .ok (.slice (some ⟨w.heap.size, 0, none⟩) M M) (w.alloc (.cells (zrow M) 5)))
    (hnew : ∀ w, Calls Try.prog 14 #[.int .i64 m] w fun e w' => e = .returned (.slice (some ⟨w.heap.size, 0, none⟩) M M) ∧ w.alloc (.cells (zrow M) 5) = w')
    (q1 : m < 0) (hq : IntKind.i64.wrap ((IntKind.i64.wrap 1).tdiv 2) = (M : Int)) :
    Calls Try.prog 4 #[v, .int .i64 p, .int .i64 n, .int .i64 t, .int .i64 m] w fun e w' => e = .returned (.bool true) ∧ Below w.heap.size w w' := by
  go_enter Try.func4, Try.ntmps4
  go_wp2_with fail
  refine (tget_any v zs p w h).mono ?_
  rintro e w1 ⟨rfl, hbel1⟩
  have h1 := h.below hbel1
  go_wp2_with fail
  refine (cget_any v zs p w1 h1).mono ?_
  rintro e w2 ⟨rfl, rfl⟩
  go_wp2_with fail
  refine (tset_any v zs p n t w1 h1 hn).mono ?_
  rintro e w2 ⟨v1, rfl, hb1, hbel2⟩
  have h2 := h1.below hbel2
  go_wp2_with fail
  refine (cset_any v zs p n t w2 h2).mono ?_
  rintro e w3 ⟨v2, rfl, hb2, hbel3⟩
  have hB : Below w.heap.size w w3 := (hbel1.trans (hbel2.mono hbel1.size)).trans (hbel3.mono (by have := hbel1.size; have := hbel2.size; omega))
  have HS : ∀ w', Below w3.heap.size w3 w' → (Sem.run Try.prog (convert 31 9 v1) w' = .ok (.string (strOfNums (tsetV zs p n t))) w' ∧ Sem.run Try.prog (convert 31 9 v2) w' = .ok (.string (strOfNums (tsetV zs p n t))) w') :=
    fun w' hb => ⟨str_of ((hb1.below hbel3).below hb), str_of (hb2.below hb)⟩
  clear hb1 hb2 h1 h2 h hbel1 hbel2 hbel3
  generalize tgetV zs p = A
  generalize tgetE zs p = E
  generalize tsetE zs p n t = F
  generalize strOfNums (tsetV zs p n t) = Z at HS
  have hz := zrow_str M hM
  generalize strOfNums (List.replicate M 0) = ZZ at hz
  have c1 : Sem.run Try.prog (convert 31 9 (.slice (some ⟨w3.heap.size, 0, none⟩) M M)) (w3.alloc (.cells (zrow M) 5)).drew = .ok (.string ZZ) (w3.alloc (.cells (zrow M) 5)).drew := hz _ _ (heap_alloc_new _ _)
  have c2 : Sem.run Try.prog (convert 31 9 (.slice (some ⟨w3.heap.size, 0, none⟩) M M)) ((w3.alloc (.cells (zrow M) 5)).alloc (.cells (zrow M) 5)).drew = .ok (.string ZZ) ((w3.alloc (.cells (zrow M) 5)).alloc (.cells (zrow M) 5)).drew :=
    hz _ _ (by show ((w3.alloc (.cells (zrow M) 5)).alloc (.cells (zrow M) 5)).heap[w3.heap.size]? = _; rw [Below.heap_alloc _ _ _ (by simp)]; exact heap_alloc_new _ _)
  have c3 : Sem.run Try.prog (convert 31 9 (.slice (some ⟨w3.heap.size + 1, 0, none⟩) M M)) ((w3.alloc (.cells (zrow M) 5)).alloc (.cells (zrow M) 5)).drew = .ok (.string ZZ) ((w3.alloc (.cells (zrow M) 5)).alloc (.cells (zrow M) 5)).drew :=
    hz _ _ (by have := heap_alloc_new (w3.alloc (.cells (zrow M) 5)) (.cells (zrow M) 5); rw [World.size_alloc] at this; exact this)
  clear hz
  have HH : Hid (∀ w', Below w3.heap.size w3 w' → (Sem.run Try.prog (convert 31 9 v1) w' = .ok (.string Z) w' ∧ Sem.run Try.prog (convert 31 9 v2) w' = .ok (.string Z) w')) := HS
  clear HS
  have HN : Hid (∀ w, Calls Try.prog 14 #[.int .i64 m] w fun e w' => e = .returned (.slice (some ⟨w.heap.size, 0, none⟩) M M) ∧ w.alloc (.cells (zrow M) 5) = w') := hnew
  clear hnew
  have hmk' : ∀ w : World, (Instr.makeSlice 31 (.int .i64 (IntKind.i64.wrap ((IntKind.i64.wrap 1).tdiv 2))) (.int .i64 (IntKind.i64.wrap ((IntKind.i64.wrap 1).tdiv 2)))).run Try.prog w = .ok (.slice (some ⟨w.heap.size, 0, none⟩) M M) (w.alloc (.cells (zrow M) 5)) := by
    rw [hq]; exact hmk
  clear hmk hq
  go_wp2_with fail
  go_region_held (fun w' => Sem.run Try.prog (convert 31 9 v1) w' = .ok (.string Z) w' ∧ Sem.run Try.prog (convert 31 9 v2) w' = .ok (.string Z) w')
    ((refine HH.out _ ?_; repeat (first | exact Below.refl _ _ | refine Below.drew ?_ | refine Below.alloc ?_ (by simp) _)))
    (first
    | (go_at_call 14; go_must (refine (HN.out _).mono ?_); rintro e w' ⟨rfl, rfl⟩))
  all_goals
    go_wp2
    go_ret
    refine ⟨rfl, ?_⟩
    repeat (first | exact hB | refine Below.drew ?_ | refine Below.alloc ?_ (by have := hB.size; simp; omega) _)
end Go.Proofs.Ytocempcoddahiab

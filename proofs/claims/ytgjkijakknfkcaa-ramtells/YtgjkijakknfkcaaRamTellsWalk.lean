/- ram.New, Get, Put and Frame answer what the document says: framewardenlaw.RamTells returns true at every slice of bytes within the form's own reach and at all numbers. -/
import Derived.Test.YtgjkijakknfkcaaRamRef
import Derived.Deep.RegionHeld
import Derived.BigRegion
namespace Go.Proofs.Ytgjkijakknfkcaa
open Go.RowKit

/-- The cells of all frames, all 0. -/
def zeroRow : Array Value := madeCells #[.int .u8 0] 4096
def zeroList : List Int := List.replicate 4096 0

theorem run_make4096 (w : World) : (Instr.makeSlice 22 (.int .i64 4096) (.int .i64 4096)).run Try.prog w = .ok (.slice (some ⟨w.heap.size, 0, none⟩) 4096 4096) (w.alloc (.cells zeroRow 5)) := by
  obtain ⟨i0, hi, hz0, hz1, hz2⟩ := info_parts Try.infoU8
  have := run_make (P := Try.prog) w 22 5 i0 (.int .u8 0) Try.underlying22 hi hz0 .i64 .i64 4096 4096 (by omega) (by omega) (by rw [hz2]; omega) (by omega)
  rw [hz1] at this
  exact this

theorem zero_gen {w : World} {g : Nat} (m : Nat) (h : w.heap[g]? = some (.cells (madeCells #[.int .u8 0] m) 5)) (hm : m ≤ 140737488351232) : IsBytes w (.slice (some ⟨g, 0, none⟩) m m) (List.replicate m 0) := by
  have hl : (List.replicate m (0 : Int)).length = m := List.length_replicate
  have hr : madeCells #[.int .u8 0] m = (vals (List.replicate m 0)).toArray := by
    unfold vals
    rw [List.map_replicate, ← toList_madeCells_one]
  have ho : OwnRow w g 5 (vals (List.replicate m 0)) := by unfold OwnRow; rw [h, hr]
  have := isBytes_own ho (by
    intro i
    rw [List.getD_eq_getElem?_getD, List.getElem?_replicate]
    split <;> simp) (by omega)
  rw [hl] at this
  exact this

theorem zero_own {w : World} {g : Nat} (h : w.heap[g]? = some (.cells zeroRow 5)) : IsBytes w (.slice (some ⟨g, 0, none⟩) 4096 4096) zeroList := zero_gen 4096 h (by omega)

theorem frame_in (n : Int) (w : World) (h : 0 ≤ n ∧ n < 64) : Calls Try.prog 10 #[.int .i64 n] w fun e w' => e = .returned (.int .i64 (64 * n)) ∧ w = w' := by
  have := frame_any n w; rw [if_pos h] at this; exact this
theorem frame_out (n : Int) (w : World) (h : ¬ (0 ≤ n ∧ n < 64)) : Calls Try.prog 10 #[.int .i64 n] w fun e w' => e = .returned (.int .i64 (-1)) ∧ w = w' := by
  have := frame_any n w; rw [if_neg h] at this; exact this

set_option maxHeartbeats 400000 in
theorem new_any (w : World) : Calls Try.prog 11 #[] w fun e w' => e = .returned (.slice (some ⟨w.heap.size, 0, none⟩) 4096 4096) ∧ w.alloc (.cells zeroRow 5) = w' := by
  have hmk := run_make4096
  go_enter Try.func11, Try.ntmps11
  go_wp2
  go_ret
  exact ⟨rfl, rfl⟩

set_option maxHeartbeats 8000000 in
theorem ramTells_walk (v : Value) (zs : List Int) (p n x : Int) (w : World) (h : IsBytes w v zs) (_ : (Lit.int .i64 p).wf = true) (_ : (Lit.int .i64 n).wf = true) (_ : (Lit.int .i64 x).wf = true) :
    Calls Try.prog 3 #[v, .int .i64 p, .int .i64 n, .int .i64 x] w fun e w' => e = .returned (.bool true) ∧ Below w.heap.size w w' := by
  go_enter Try.func3, Try.ntmps3
  go_wp2_with fail
  refine (get_any v zs p n w h).mono ?_
  rintro e w1 ⟨rfl, rfl⟩
  go_wp2_with fail
  refine (aget_any v zs p n w h).mono ?_
  rintro e w1 ⟨rfl, rfl⟩
  go_wp2_with fail
  refine (put_any v zs p n x w h).mono ?_
  rintro e w1 ⟨v1, rfl, hb1, hbel1⟩
  have h1 := h.below hbel1
  go_wp2_with fail
  refine (aput_any v zs p n x w1 h1).mono ?_
  rintro e w2 ⟨v2, rfl, hb2, hbel2⟩
  have hB : Below w.heap.size w w2 := hbel1.trans (hbel2.mono hbel1.size)
  have hS : ∀ w', Below w2.heap.size w2 w' → (Sem.run Try.prog (convert 22 9 v1) w' = .ok (.string (strOfNums (putV zs p n x))) w' ∧ Sem.run Try.prog (convert 22 9 v2) w' = .ok (.string (strOfNums (putV zs p n x))) w') :=
    fun w' hb => ⟨str_of ((hb1.below hbel2).below hb), str_of (hb2.below hb)⟩
  have HS := hS
  clear hb1 hb2 h1 h hbel1 hbel2
  have hmk := run_make4096
  generalize getV zs p n = A
  generalize errV zs p n = E
  generalize strOfNums (putV zs p n x) = Z at HS
  clear hS
  have hz : ∀ g w', w'.heap[g]? = some (.cells zeroRow 5) → Sem.run Try.prog (convert 22 9 (.slice (some ⟨g, 0, none⟩) 4096 4096)) w' = .ok (.string (strOfNums zeroList)) w' := fun g w' h => str_of (zero_own h)
  generalize strOfNums zeroList = ZZ at hz
  have c1 : Sem.run Try.prog (convert 22 9 (.slice (some ⟨w2.heap.size, 0, none⟩) 4096 4096)) (w2.alloc (.cells zeroRow 5)).drew = .ok (.string ZZ) (w2.alloc (.cells zeroRow 5)).drew := hz _ _ (heap_alloc_new _ _)
  have c2 : Sem.run Try.prog (convert 22 9 (.slice (some ⟨w2.heap.size, 0, none⟩) 4096 4096)) ((w2.alloc (.cells zeroRow 5)).alloc (.cells zeroRow 5)).drew = .ok (.string ZZ) ((w2.alloc (.cells zeroRow 5)).alloc (.cells zeroRow 5)).drew :=
    hz _ _ (by show ((w2.alloc (.cells zeroRow 5)).alloc (.cells zeroRow 5)).heap[w2.heap.size]? = _; rw [Below.heap_alloc _ _ _ (by simp)]; exact heap_alloc_new _ _)
  have c3 : Sem.run Try.prog (convert 22 9 (.slice (some ⟨w2.heap.size + 1, 0, none⟩) 4096 4096)) ((w2.alloc (.cells zeroRow 5)).alloc (.cells zeroRow 5)).drew = .ok (.string ZZ) ((w2.alloc (.cells zeroRow 5)).alloc (.cells zeroRow 5)).drew :=
    hz _ _ (by have := heap_alloc_new (w2.alloc (.cells zeroRow 5)) (.cells zeroRow 5); rw [World.size_alloc] at this; exact this)
  clear hz
  have HH : Hid (∀ w', Below w2.heap.size w2 w' → (Sem.run Try.prog (convert 22 9 v1) w' = .ok (.string Z) w' ∧ Sem.run Try.prog (convert 22 9 v2) w' = .ok (.string Z) w')) := HS
  clear HS
  by_cases hp : 0 ≤ p ∧ p < 64
  · have hpp := hp
    obtain ⟨hp1, hp2⟩ := hp
    go_wp2_with fail
    go_region_held (fun w' => Sem.run Try.prog (convert 22 9 v1) w' = .ok (.string Z) w' ∧ Sem.run Try.prog (convert 22 9 v2) w' = .ok (.string Z) w')
      ((refine HH.out _ ?_; repeat (first | exact Below.refl _ _ | refine Below.drew ?_ | refine Below.alloc ?_ (by simp) _)))
      (first
      | (go_at_call 10; go_must (refine (frame_in _ _ hpp).mono ?_); rintro e w' ⟨rfl, rfl⟩)
      | (go_at_call 11; go_must (refine (new_any _).mono ?_); rintro e w' ⟨rfl, rfl⟩))
    all_goals
      go_wp2
      go_ret
      refine ⟨rfl, ?_⟩
      repeat (first | exact hB | refine Below.drew ?_ | refine Below.alloc ?_ (by have := hB.size; simp; omega) _)
  · have hpp := hp
    rcases (show p < 0 ∨ 64 ≤ p by omega) with hp1 | hp1
    all_goals
      clear hp
      go_wp2_with fail
      go_region_held (fun w' => Sem.run Try.prog (convert 22 9 v1) w' = .ok (.string Z) w' ∧ Sem.run Try.prog (convert 22 9 v2) w' = .ok (.string Z) w')
        ((refine HH.out _ ?_; repeat (first | exact Below.refl _ _ | refine Below.drew ?_ | refine Below.alloc ?_ (by simp) _)))
        (first
        | (go_at_call 10; go_must (refine (frame_out _ _ hpp).mono ?_); rintro e w' ⟨rfl, rfl⟩)
        | (go_at_call 11; go_must (refine (new_any _).mono ?_); rintro e w' ⟨rfl, rfl⟩))
      all_goals
        go_wp2
        go_ret
        refine ⟨rfl, ?_⟩
        repeat (first | exact hB | refine Below.drew ?_ | refine Below.alloc ?_ (by have := hB.size; simp; omega) _)
end Go.Proofs.Ytgjkijakknfkcaa

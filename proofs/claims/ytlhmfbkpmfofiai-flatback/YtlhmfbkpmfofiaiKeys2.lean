/- The contract of keys.New over the loaded program. -/
import Derived.Test.YtlhmfbkpmfofiaiKeys1
namespace Go.Proofs.Ytlhmfbkpmfofiai
set_option maxRecDepth 100000
open Go.RowKit
set_option linter.unusedSimpArgs false
set_option linter.unusedVariables false

theorem OwnRow.alloc {w : World} {g : Nat} {e : TypeId} {xs : List Value} (h : OwnRow w g e xs) (o : Obj) : OwnRow (w.alloc o) g e xs := h.below ((Below.refl _ _).alloc (Nat.le_refl _) _) h.lt

theorem below_al {v w : World} (h : Below v.heap.size v w) (o : Obj) : Below v.heap.size v (w.alloc o) := h.alloc h.size o

/-- Keys, a number and an error, as they are returned. -/
abbrev kneV (l : K8) (n e : Int) : Value := .tuple #[kv l, .int .i64 n, .int .i64 e]

set_option maxHeartbeats 1600000 in
theorem new_0 (t1 t2 t3 : Bool) (d0 d1 d2 d3 : Int) (w : World) :
    Calls Try.prog 58 #[kv (false, d0, t1, d1, t2, d2, t3, d3)] w fun e w' => e = .returned (kneV (true, 0, t1, d1, t2, d2, t3, d3) 0 0) ∧ Below w.heap.size w w' := by
  have H2 : Hid (OwnRow ((w.alloc (.cells #[.bool false, .int .i64 d0, .bool t1, .int .i64 d1, .bool t2, .int .i64 d2, .bool t3, .int .i64 d3] 30)).alloc (.cells #[.bool false, .int .i64 0, .bool false, .int .i64 0, .bool false, .int .i64 0, .bool false, .int .i64 0] 30)) w.heap.size 30 [.bool false, .int .i64 d0, .bool t1, .int .i64 d1, .bool t2, .int .i64 d2, .bool t3, .int .i64 d3] ∧ OwnRow ((w.alloc (.cells #[.bool false, .int .i64 d0, .bool t1, .int .i64 d1, .bool t2, .int .i64 d2, .bool t3, .int .i64 d3] 30)).alloc (.cells #[.bool false, .int .i64 0, .bool false, .int .i64 0, .bool false, .int .i64 0, .bool false, .int .i64 0] 30)) (w.heap.size + 1) 30 [.bool false, .int .i64 0, .bool false, .int .i64 0, .bool false, .int .i64 0, .bool false, .int .i64 0]) := own_two (xs := [_, _, _, _, _, _, _, _]) (ys := [_, _, _, _, _, _, _, _]) (Below.refl _ _)
  have hb2 : Hid (∀ o1 o2, Below w.heap.size w ((w.alloc o1).alloc o2)) := fun o1 o2 => ((Below.refl _ _).alloc (Nat.le_refl _) _).alloc (by simp) _
  go_enter Try.func58, Try.ntmps58
  go_wp2_with fail
  go_loopw [8] (fun i wr => ∃ j : Nat, j ≤ 0 ∧ i = .int .i64 j ∧ OwnRow wr w.heap.size 30 [.bool false, .int .i64 d0, .bool t1, .int .i64 d1, .bool t2, .int .i64 d2, .bool t3, .int .i64 d3] ∧ OwnRow wr (w.heap.size + 1) 30 [.bool false, .int .i64 0, .bool false, .int .i64 0, .bool false, .int .i64 0, .bool false, .int .i64 0] ∧ Below w.heap.size w wr) (fun i _ => 4 - (intOf i).toNat)
  case atStart => exact ⟨0, by omega, rfl, H2.out.1, H2.out.2, hb2.out _ _⟩
  case round =>
    clear H2 hb2
    obtain ⟨j, hj, rfl, hA, hB, hbel⟩ := hrel
    have hzB : w.heap.size + 1 < wr.heap.size := hB.lt
    have hzA : w.heap.size < wr.heap.size := hA.lt
    have hx0 : ∀ w : World, (Instr.index 30 (.agg #[.bool false, .int .i64 d0, .bool t1, .int .i64 d1, .bool t2, .int .i64 d2, .bool t3, .int .i64 d3]) (.int .i64 0)).run Try.prog w = .ok (.agg #[.bool false, .int .i64 d0]) w := fun _ => by kernel_rfl
    have hx1 : ∀ w : World, (Instr.index 30 (.agg #[.bool false, .int .i64 d0, .bool t1, .int .i64 d1, .bool t2, .int .i64 d2, .bool t3, .int .i64 d3]) (.int .i64 1)).run Try.prog w = .ok (.agg #[.bool t1, .int .i64 d1]) w := fun _ => by kernel_rfl
    have hx2 : ∀ w : World, (Instr.index 30 (.agg #[.bool false, .int .i64 d0, .bool t1, .int .i64 d1, .bool t2, .int .i64 d2, .bool t3, .int .i64 d3]) (.int .i64 2)).run Try.prog w = .ok (.agg #[.bool t2, .int .i64 d2]) w := fun _ => by kernel_rfl
    have hx3 : ∀ w : World, (Instr.index 30 (.agg #[.bool false, .int .i64 d0, .bool t1, .int .i64 d1, .bool t2, .int .i64 d2, .bool t3, .int .i64 d3]) (.int .i64 3)).run Try.prog w = .ok (.agg #[.bool t3, .int .i64 d3]) w := fun _ => by kernel_rfl
    have HN : Hid (∀ o, OwnRow (wr.alloc o) w.heap.size 30 [.bool false, .int .i64 d0, .bool t1, .int .i64 d1, .bool t2, .int .i64 d2, .bool t3, .int .i64 d3] ∧ OwnRow (wr.alloc o) (w.heap.size + 1) 30 [.bool false, .int .i64 0, .bool false, .int .i64 0, .bool false, .int .i64 0, .bool false, .int .i64 0] ∧ Below w.heap.size w (wr.alloc o)) := fun o => ⟨hA.below ((Below.refl _ _).alloc (Nat.le_refl _) _) hA.lt, hB.below ((Below.refl _ _).alloc (Nat.le_refl _) _) hB.lt, hbel.alloc hbel.size _⟩
    have hj4 : j = 0 := by omega
    clear hj
    rcases hj4 with rfl
    · have f0 := hA.free
      have f1 := hB.free
      obtain ⟨⟨a0, a1, a2, a3⟩, ⟨a4, a5, a6, a7⟩⟩ := hA.eight
      obtain ⟨⟨b0, b1, b2, b3⟩, ⟨b4, b5, b6, b7⟩⟩ := hB.eight
      have HB : Hid (OwnRow wr (w.heap.size + 1) 30 [.bool false, .int .i64 0, .bool false, .int .i64 0, .bool false, .int .i64 0, .bool false, .int .i64 0] ∧ Below w.heap.size w wr) := ⟨hB, hbel⟩
      clear hA hB hbel
      go_wp2
      exact bodyPost_ret (v := kneV (true, 0, t1, d1, t2, d2, t3, d3) 0 0) (results_cell_tmps Try.results58 _ _ _ _ _ _ rfl rfl rfl (load8 (OwnRow.alloc (row8_set (OwnRow.beside (OwnRow.beside HB.out.1 (by omega) _) (by omega) _) _ _ _ _ _ _ _ _) _))) rfl ⟨rfl, below_al (below8_set ((HB.out.2.setCell (by simp) _).setCell (by simp) _) (by simp) _ _ _ _ _ _ _ _) _⟩

set_option maxHeartbeats 1600000 in
theorem new_1 (t2 t3 : Bool) (d0 d1 d2 d3 : Int) (w : World) :
    Calls Try.prog 58 #[kv (true, d0, false, d1, t2, d2, t3, d3)] w fun e w' => e = .returned (kneV (true, d0, true, 0, t2, d2, t3, d3) 1 0) ∧ Below w.heap.size w w' := by
  have H2 : Hid (OwnRow ((w.alloc (.cells #[.bool true, .int .i64 d0, .bool false, .int .i64 d1, .bool t2, .int .i64 d2, .bool t3, .int .i64 d3] 30)).alloc (.cells #[.bool false, .int .i64 0, .bool false, .int .i64 0, .bool false, .int .i64 0, .bool false, .int .i64 0] 30)) w.heap.size 30 [.bool true, .int .i64 d0, .bool false, .int .i64 d1, .bool t2, .int .i64 d2, .bool t3, .int .i64 d3] ∧ OwnRow ((w.alloc (.cells #[.bool true, .int .i64 d0, .bool false, .int .i64 d1, .bool t2, .int .i64 d2, .bool t3, .int .i64 d3] 30)).alloc (.cells #[.bool false, .int .i64 0, .bool false, .int .i64 0, .bool false, .int .i64 0, .bool false, .int .i64 0] 30)) (w.heap.size + 1) 30 [.bool false, .int .i64 0, .bool false, .int .i64 0, .bool false, .int .i64 0, .bool false, .int .i64 0]) := own_two (xs := [_, _, _, _, _, _, _, _]) (ys := [_, _, _, _, _, _, _, _]) (Below.refl _ _)
  have hb2 : Hid (∀ o1 o2, Below w.heap.size w ((w.alloc o1).alloc o2)) := fun o1 o2 => ((Below.refl _ _).alloc (Nat.le_refl _) _).alloc (by simp) _
  go_enter Try.func58, Try.ntmps58
  go_wp2_with fail
  go_loopw [8] (fun i wr => ∃ j : Nat, j ≤ 1 ∧ i = .int .i64 j ∧ OwnRow wr w.heap.size 30 [.bool true, .int .i64 d0, .bool false, .int .i64 d1, .bool t2, .int .i64 d2, .bool t3, .int .i64 d3] ∧ OwnRow wr (w.heap.size + 1) 30 [.bool false, .int .i64 0, .bool false, .int .i64 0, .bool false, .int .i64 0, .bool false, .int .i64 0] ∧ Below w.heap.size w wr) (fun i _ => 4 - (intOf i).toNat)
  case atStart => exact ⟨0, by omega, rfl, H2.out.1, H2.out.2, hb2.out _ _⟩
  case round =>
    clear H2 hb2
    obtain ⟨j, hj, rfl, hA, hB, hbel⟩ := hrel
    have hzB : w.heap.size + 1 < wr.heap.size := hB.lt
    have hzA : w.heap.size < wr.heap.size := hA.lt
    have hx0 : ∀ w : World, (Instr.index 30 (.agg #[.bool true, .int .i64 d0, .bool false, .int .i64 d1, .bool t2, .int .i64 d2, .bool t3, .int .i64 d3]) (.int .i64 0)).run Try.prog w = .ok (.agg #[.bool true, .int .i64 d0]) w := fun _ => by kernel_rfl
    have hx1 : ∀ w : World, (Instr.index 30 (.agg #[.bool true, .int .i64 d0, .bool false, .int .i64 d1, .bool t2, .int .i64 d2, .bool t3, .int .i64 d3]) (.int .i64 1)).run Try.prog w = .ok (.agg #[.bool false, .int .i64 d1]) w := fun _ => by kernel_rfl
    have hx2 : ∀ w : World, (Instr.index 30 (.agg #[.bool true, .int .i64 d0, .bool false, .int .i64 d1, .bool t2, .int .i64 d2, .bool t3, .int .i64 d3]) (.int .i64 2)).run Try.prog w = .ok (.agg #[.bool t2, .int .i64 d2]) w := fun _ => by kernel_rfl
    have hx3 : ∀ w : World, (Instr.index 30 (.agg #[.bool true, .int .i64 d0, .bool false, .int .i64 d1, .bool t2, .int .i64 d2, .bool t3, .int .i64 d3]) (.int .i64 3)).run Try.prog w = .ok (.agg #[.bool t3, .int .i64 d3]) w := fun _ => by kernel_rfl
    have HN : Hid (∀ o, OwnRow (wr.alloc o) w.heap.size 30 [.bool true, .int .i64 d0, .bool false, .int .i64 d1, .bool t2, .int .i64 d2, .bool t3, .int .i64 d3] ∧ OwnRow (wr.alloc o) (w.heap.size + 1) 30 [.bool false, .int .i64 0, .bool false, .int .i64 0, .bool false, .int .i64 0, .bool false, .int .i64 0] ∧ Below w.heap.size w (wr.alloc o)) := fun o => ⟨hA.below ((Below.refl _ _).alloc (Nat.le_refl _) _) hA.lt, hB.below ((Below.refl _ _).alloc (Nat.le_refl _) _) hB.lt, hbel.alloc hbel.size _⟩
    have hj4 : j = 0 ∨ j = 1 := by omega
    clear hj
    rcases hj4 with rfl | rfl
    · clear hA hB
      go_wp2
      go_roundw
      case rel => exact ⟨1, by omega, rfl, (HN.out _).1, (HN.out _).2.1, (HN.out _).2.2⟩
      case measure => simp [intOf]
    · have f0 := hA.free
      have f1 := hB.free
      obtain ⟨⟨a0, a1, a2, a3⟩, ⟨a4, a5, a6, a7⟩⟩ := hA.eight
      obtain ⟨⟨b0, b1, b2, b3⟩, ⟨b4, b5, b6, b7⟩⟩ := hB.eight
      have HB : Hid (OwnRow wr (w.heap.size + 1) 30 [.bool false, .int .i64 0, .bool false, .int .i64 0, .bool false, .int .i64 0, .bool false, .int .i64 0] ∧ Below w.heap.size w wr) := ⟨hB, hbel⟩
      clear hA hB hbel
      go_wp2
      exact bodyPost_ret (v := kneV (true, d0, true, 0, t2, d2, t3, d3) 1 0) (results_cell_tmps Try.results58 _ _ _ _ _ _ rfl rfl rfl (load8 (OwnRow.alloc (row8_set (OwnRow.beside (OwnRow.beside HB.out.1 (by omega) _) (by omega) _) _ _ _ _ _ _ _ _) _))) rfl ⟨rfl, below_al (below8_set ((HB.out.2.setCell (by simp) _).setCell (by simp) _) (by simp) _ _ _ _ _ _ _ _) _⟩

set_option maxHeartbeats 1600000 in
theorem new_2 (t3 : Bool) (d0 d1 d2 d3 : Int) (w : World) :
    Calls Try.prog 58 #[kv (true, d0, true, d1, false, d2, t3, d3)] w fun e w' => e = .returned (kneV (true, d0, true, d1, true, 0, t3, d3) 2 0) ∧ Below w.heap.size w w' := by
  have H2 : Hid (OwnRow ((w.alloc (.cells #[.bool true, .int .i64 d0, .bool true, .int .i64 d1, .bool false, .int .i64 d2, .bool t3, .int .i64 d3] 30)).alloc (.cells #[.bool false, .int .i64 0, .bool false, .int .i64 0, .bool false, .int .i64 0, .bool false, .int .i64 0] 30)) w.heap.size 30 [.bool true, .int .i64 d0, .bool true, .int .i64 d1, .bool false, .int .i64 d2, .bool t3, .int .i64 d3] ∧ OwnRow ((w.alloc (.cells #[.bool true, .int .i64 d0, .bool true, .int .i64 d1, .bool false, .int .i64 d2, .bool t3, .int .i64 d3] 30)).alloc (.cells #[.bool false, .int .i64 0, .bool false, .int .i64 0, .bool false, .int .i64 0, .bool false, .int .i64 0] 30)) (w.heap.size + 1) 30 [.bool false, .int .i64 0, .bool false, .int .i64 0, .bool false, .int .i64 0, .bool false, .int .i64 0]) := own_two (xs := [_, _, _, _, _, _, _, _]) (ys := [_, _, _, _, _, _, _, _]) (Below.refl _ _)
  have hb2 : Hid (∀ o1 o2, Below w.heap.size w ((w.alloc o1).alloc o2)) := fun o1 o2 => ((Below.refl _ _).alloc (Nat.le_refl _) _).alloc (by simp) _
  go_enter Try.func58, Try.ntmps58
  go_wp2_with fail
  go_loopw [8] (fun i wr => ∃ j : Nat, j ≤ 2 ∧ i = .int .i64 j ∧ OwnRow wr w.heap.size 30 [.bool true, .int .i64 d0, .bool true, .int .i64 d1, .bool false, .int .i64 d2, .bool t3, .int .i64 d3] ∧ OwnRow wr (w.heap.size + 1) 30 [.bool false, .int .i64 0, .bool false, .int .i64 0, .bool false, .int .i64 0, .bool false, .int .i64 0] ∧ Below w.heap.size w wr) (fun i _ => 4 - (intOf i).toNat)
  case atStart => exact ⟨0, by omega, rfl, H2.out.1, H2.out.2, hb2.out _ _⟩
  case round =>
    clear H2 hb2
    obtain ⟨j, hj, rfl, hA, hB, hbel⟩ := hrel
    have hzB : w.heap.size + 1 < wr.heap.size := hB.lt
    have hzA : w.heap.size < wr.heap.size := hA.lt
    have hx0 : ∀ w : World, (Instr.index 30 (.agg #[.bool true, .int .i64 d0, .bool true, .int .i64 d1, .bool false, .int .i64 d2, .bool t3, .int .i64 d3]) (.int .i64 0)).run Try.prog w = .ok (.agg #[.bool true, .int .i64 d0]) w := fun _ => by kernel_rfl
    have hx1 : ∀ w : World, (Instr.index 30 (.agg #[.bool true, .int .i64 d0, .bool true, .int .i64 d1, .bool false, .int .i64 d2, .bool t3, .int .i64 d3]) (.int .i64 1)).run Try.prog w = .ok (.agg #[.bool true, .int .i64 d1]) w := fun _ => by kernel_rfl
    have hx2 : ∀ w : World, (Instr.index 30 (.agg #[.bool true, .int .i64 d0, .bool true, .int .i64 d1, .bool false, .int .i64 d2, .bool t3, .int .i64 d3]) (.int .i64 2)).run Try.prog w = .ok (.agg #[.bool false, .int .i64 d2]) w := fun _ => by kernel_rfl
    have hx3 : ∀ w : World, (Instr.index 30 (.agg #[.bool true, .int .i64 d0, .bool true, .int .i64 d1, .bool false, .int .i64 d2, .bool t3, .int .i64 d3]) (.int .i64 3)).run Try.prog w = .ok (.agg #[.bool t3, .int .i64 d3]) w := fun _ => by kernel_rfl
    have HN : Hid (∀ o, OwnRow (wr.alloc o) w.heap.size 30 [.bool true, .int .i64 d0, .bool true, .int .i64 d1, .bool false, .int .i64 d2, .bool t3, .int .i64 d3] ∧ OwnRow (wr.alloc o) (w.heap.size + 1) 30 [.bool false, .int .i64 0, .bool false, .int .i64 0, .bool false, .int .i64 0, .bool false, .int .i64 0] ∧ Below w.heap.size w (wr.alloc o)) := fun o => ⟨hA.below ((Below.refl _ _).alloc (Nat.le_refl _) _) hA.lt, hB.below ((Below.refl _ _).alloc (Nat.le_refl _) _) hB.lt, hbel.alloc hbel.size _⟩
    have hj4 : j = 0 ∨ j = 1 ∨ j = 2 := by omega
    clear hj
    rcases hj4 with rfl | rfl | rfl
    · clear hA hB
      go_wp2
      go_roundw
      case rel => exact ⟨1, by omega, rfl, (HN.out _).1, (HN.out _).2.1, (HN.out _).2.2⟩
      case measure => simp [intOf]
    · clear hA hB
      go_wp2
      go_roundw
      case rel => exact ⟨2, by omega, rfl, (HN.out _).1, (HN.out _).2.1, (HN.out _).2.2⟩
      case measure => simp [intOf]
    · have f0 := hA.free
      have f1 := hB.free
      obtain ⟨⟨a0, a1, a2, a3⟩, ⟨a4, a5, a6, a7⟩⟩ := hA.eight
      obtain ⟨⟨b0, b1, b2, b3⟩, ⟨b4, b5, b6, b7⟩⟩ := hB.eight
      have HB : Hid (OwnRow wr (w.heap.size + 1) 30 [.bool false, .int .i64 0, .bool false, .int .i64 0, .bool false, .int .i64 0, .bool false, .int .i64 0] ∧ Below w.heap.size w wr) := ⟨hB, hbel⟩
      clear hA hB hbel
      go_wp2
      exact bodyPost_ret (v := kneV (true, d0, true, d1, true, 0, t3, d3) 2 0) (results_cell_tmps Try.results58 _ _ _ _ _ _ rfl rfl rfl (load8 (OwnRow.alloc (row8_set (OwnRow.beside (OwnRow.beside HB.out.1 (by omega) _) (by omega) _) _ _ _ _ _ _ _ _) _))) rfl ⟨rfl, below_al (below8_set ((HB.out.2.setCell (by simp) _).setCell (by simp) _) (by simp) _ _ _ _ _ _ _ _) _⟩

set_option maxHeartbeats 1600000 in
theorem new_3 (d0 d1 d2 d3 : Int) (w : World) :
    Calls Try.prog 58 #[kv (true, d0, true, d1, true, d2, false, d3)] w fun e w' => e = .returned (kneV (true, d0, true, d1, true, d2, true, 0) 3 0) ∧ Below w.heap.size w w' := by
  have H2 : Hid (OwnRow ((w.alloc (.cells #[.bool true, .int .i64 d0, .bool true, .int .i64 d1, .bool true, .int .i64 d2, .bool false, .int .i64 d3] 30)).alloc (.cells #[.bool false, .int .i64 0, .bool false, .int .i64 0, .bool false, .int .i64 0, .bool false, .int .i64 0] 30)) w.heap.size 30 [.bool true, .int .i64 d0, .bool true, .int .i64 d1, .bool true, .int .i64 d2, .bool false, .int .i64 d3] ∧ OwnRow ((w.alloc (.cells #[.bool true, .int .i64 d0, .bool true, .int .i64 d1, .bool true, .int .i64 d2, .bool false, .int .i64 d3] 30)).alloc (.cells #[.bool false, .int .i64 0, .bool false, .int .i64 0, .bool false, .int .i64 0, .bool false, .int .i64 0] 30)) (w.heap.size + 1) 30 [.bool false, .int .i64 0, .bool false, .int .i64 0, .bool false, .int .i64 0, .bool false, .int .i64 0]) := own_two (xs := [_, _, _, _, _, _, _, _]) (ys := [_, _, _, _, _, _, _, _]) (Below.refl _ _)
  have hb2 : Hid (∀ o1 o2, Below w.heap.size w ((w.alloc o1).alloc o2)) := fun o1 o2 => ((Below.refl _ _).alloc (Nat.le_refl _) _).alloc (by simp) _
  go_enter Try.func58, Try.ntmps58
  go_wp2_with fail
  go_loopw [8] (fun i wr => ∃ j : Nat, j ≤ 3 ∧ i = .int .i64 j ∧ OwnRow wr w.heap.size 30 [.bool true, .int .i64 d0, .bool true, .int .i64 d1, .bool true, .int .i64 d2, .bool false, .int .i64 d3] ∧ OwnRow wr (w.heap.size + 1) 30 [.bool false, .int .i64 0, .bool false, .int .i64 0, .bool false, .int .i64 0, .bool false, .int .i64 0] ∧ Below w.heap.size w wr) (fun i _ => 4 - (intOf i).toNat)
  case atStart => exact ⟨0, by omega, rfl, H2.out.1, H2.out.2, hb2.out _ _⟩
  case round =>
    clear H2 hb2
    obtain ⟨j, hj, rfl, hA, hB, hbel⟩ := hrel
    have hzB : w.heap.size + 1 < wr.heap.size := hB.lt
    have hzA : w.heap.size < wr.heap.size := hA.lt
    have hx0 : ∀ w : World, (Instr.index 30 (.agg #[.bool true, .int .i64 d0, .bool true, .int .i64 d1, .bool true, .int .i64 d2, .bool false, .int .i64 d3]) (.int .i64 0)).run Try.prog w = .ok (.agg #[.bool true, .int .i64 d0]) w := fun _ => by kernel_rfl
    have hx1 : ∀ w : World, (Instr.index 30 (.agg #[.bool true, .int .i64 d0, .bool true, .int .i64 d1, .bool true, .int .i64 d2, .bool false, .int .i64 d3]) (.int .i64 1)).run Try.prog w = .ok (.agg #[.bool true, .int .i64 d1]) w := fun _ => by kernel_rfl
    have hx2 : ∀ w : World, (Instr.index 30 (.agg #[.bool true, .int .i64 d0, .bool true, .int .i64 d1, .bool true, .int .i64 d2, .bool false, .int .i64 d3]) (.int .i64 2)).run Try.prog w = .ok (.agg #[.bool true, .int .i64 d2]) w := fun _ => by kernel_rfl
    have hx3 : ∀ w : World, (Instr.index 30 (.agg #[.bool true, .int .i64 d0, .bool true, .int .i64 d1, .bool true, .int .i64 d2, .bool false, .int .i64 d3]) (.int .i64 3)).run Try.prog w = .ok (.agg #[.bool false, .int .i64 d3]) w := fun _ => by kernel_rfl
    have HN : Hid (∀ o, OwnRow (wr.alloc o) w.heap.size 30 [.bool true, .int .i64 d0, .bool true, .int .i64 d1, .bool true, .int .i64 d2, .bool false, .int .i64 d3] ∧ OwnRow (wr.alloc o) (w.heap.size + 1) 30 [.bool false, .int .i64 0, .bool false, .int .i64 0, .bool false, .int .i64 0, .bool false, .int .i64 0] ∧ Below w.heap.size w (wr.alloc o)) := fun o => ⟨hA.below ((Below.refl _ _).alloc (Nat.le_refl _) _) hA.lt, hB.below ((Below.refl _ _).alloc (Nat.le_refl _) _) hB.lt, hbel.alloc hbel.size _⟩
    have hj4 : j = 0 ∨ j = 1 ∨ j = 2 ∨ j = 3 := by omega
    clear hj
    rcases hj4 with rfl | rfl | rfl | rfl
    · clear hA hB
      go_wp2
      go_roundw
      case rel => exact ⟨1, by omega, rfl, (HN.out _).1, (HN.out _).2.1, (HN.out _).2.2⟩
      case measure => simp [intOf]
    · clear hA hB
      go_wp2
      go_roundw
      case rel => exact ⟨2, by omega, rfl, (HN.out _).1, (HN.out _).2.1, (HN.out _).2.2⟩
      case measure => simp [intOf]
    · clear hA hB
      go_wp2
      go_roundw
      case rel => exact ⟨3, by omega, rfl, (HN.out _).1, (HN.out _).2.1, (HN.out _).2.2⟩
      case measure => simp [intOf]
    · have f0 := hA.free
      have f1 := hB.free
      obtain ⟨⟨a0, a1, a2, a3⟩, ⟨a4, a5, a6, a7⟩⟩ := hA.eight
      obtain ⟨⟨b0, b1, b2, b3⟩, ⟨b4, b5, b6, b7⟩⟩ := hB.eight
      have HB : Hid (OwnRow wr (w.heap.size + 1) 30 [.bool false, .int .i64 0, .bool false, .int .i64 0, .bool false, .int .i64 0, .bool false, .int .i64 0] ∧ Below w.heap.size w wr) := ⟨hB, hbel⟩
      clear hA hB hbel
      go_wp2
      exact bodyPost_ret (v := kneV (true, d0, true, d1, true, d2, true, 0) 3 0) (results_cell_tmps Try.results58 _ _ _ _ _ _ rfl rfl rfl (load8 (OwnRow.alloc (row8_set (OwnRow.beside (OwnRow.beside HB.out.1 (by omega) _) (by omega) _) _ _ _ _ _ _ _ _) _))) rfl ⟨rfl, below_al (below8_set ((HB.out.2.setCell (by simp) _).setCell (by simp) _) (by simp) _ _ _ _ _ _ _ _) _⟩

set_option maxHeartbeats 1600000 in
theorem new_4 (d0 d1 d2 d3 : Int) (w : World) :
    Calls Try.prog 58 #[kv (true, d0, true, d1, true, d2, true, d3)] w fun e w' => e = .returned (kneV no8 0 4) ∧ Below w.heap.size w w' := by
  have H2 : Hid (OwnRow ((w.alloc (.cells #[.bool true, .int .i64 d0, .bool true, .int .i64 d1, .bool true, .int .i64 d2, .bool true, .int .i64 d3] 30)).alloc (.cells #[.bool false, .int .i64 0, .bool false, .int .i64 0, .bool false, .int .i64 0, .bool false, .int .i64 0] 30)) w.heap.size 30 [.bool true, .int .i64 d0, .bool true, .int .i64 d1, .bool true, .int .i64 d2, .bool true, .int .i64 d3] ∧ OwnRow ((w.alloc (.cells #[.bool true, .int .i64 d0, .bool true, .int .i64 d1, .bool true, .int .i64 d2, .bool true, .int .i64 d3] 30)).alloc (.cells #[.bool false, .int .i64 0, .bool false, .int .i64 0, .bool false, .int .i64 0, .bool false, .int .i64 0] 30)) (w.heap.size + 1) 30 [.bool false, .int .i64 0, .bool false, .int .i64 0, .bool false, .int .i64 0, .bool false, .int .i64 0]) := own_two (xs := [_, _, _, _, _, _, _, _]) (ys := [_, _, _, _, _, _, _, _]) (Below.refl _ _)
  have hb2 : Hid (∀ o1 o2, Below w.heap.size w ((w.alloc o1).alloc o2)) := fun o1 o2 => ((Below.refl _ _).alloc (Nat.le_refl _) _).alloc (by simp) _
  go_enter Try.func58, Try.ntmps58
  go_wp2_with fail
  go_loopw [8] (fun i wr => ∃ j : Nat, j ≤ 4 ∧ i = .int .i64 j ∧ OwnRow wr w.heap.size 30 [.bool true, .int .i64 d0, .bool true, .int .i64 d1, .bool true, .int .i64 d2, .bool true, .int .i64 d3] ∧ OwnRow wr (w.heap.size + 1) 30 [.bool false, .int .i64 0, .bool false, .int .i64 0, .bool false, .int .i64 0, .bool false, .int .i64 0] ∧ Below w.heap.size w wr) (fun i _ => 4 - (intOf i).toNat)
  case atStart => exact ⟨0, by omega, rfl, H2.out.1, H2.out.2, hb2.out _ _⟩
  case round =>
    clear H2 hb2
    obtain ⟨j, hj, rfl, hA, hB, hbel⟩ := hrel
    have hzB : w.heap.size + 1 < wr.heap.size := hB.lt
    have hzA : w.heap.size < wr.heap.size := hA.lt
    have hx0 : ∀ w : World, (Instr.index 30 (.agg #[.bool true, .int .i64 d0, .bool true, .int .i64 d1, .bool true, .int .i64 d2, .bool true, .int .i64 d3]) (.int .i64 0)).run Try.prog w = .ok (.agg #[.bool true, .int .i64 d0]) w := fun _ => by kernel_rfl
    have hx1 : ∀ w : World, (Instr.index 30 (.agg #[.bool true, .int .i64 d0, .bool true, .int .i64 d1, .bool true, .int .i64 d2, .bool true, .int .i64 d3]) (.int .i64 1)).run Try.prog w = .ok (.agg #[.bool true, .int .i64 d1]) w := fun _ => by kernel_rfl
    have hx2 : ∀ w : World, (Instr.index 30 (.agg #[.bool true, .int .i64 d0, .bool true, .int .i64 d1, .bool true, .int .i64 d2, .bool true, .int .i64 d3]) (.int .i64 2)).run Try.prog w = .ok (.agg #[.bool true, .int .i64 d2]) w := fun _ => by kernel_rfl
    have hx3 : ∀ w : World, (Instr.index 30 (.agg #[.bool true, .int .i64 d0, .bool true, .int .i64 d1, .bool true, .int .i64 d2, .bool true, .int .i64 d3]) (.int .i64 3)).run Try.prog w = .ok (.agg #[.bool true, .int .i64 d3]) w := fun _ => by kernel_rfl
    have HN : Hid (∀ o, OwnRow (wr.alloc o) w.heap.size 30 [.bool true, .int .i64 d0, .bool true, .int .i64 d1, .bool true, .int .i64 d2, .bool true, .int .i64 d3] ∧ OwnRow (wr.alloc o) (w.heap.size + 1) 30 [.bool false, .int .i64 0, .bool false, .int .i64 0, .bool false, .int .i64 0, .bool false, .int .i64 0] ∧ Below w.heap.size w (wr.alloc o)) := fun o => ⟨hA.below ((Below.refl _ _).alloc (Nat.le_refl _) _) hA.lt, hB.below ((Below.refl _ _).alloc (Nat.le_refl _) _) hB.lt, hbel.alloc hbel.size _⟩
    have hj4 : j = 0 ∨ j = 1 ∨ j = 2 ∨ j = 3 ∨ j = 4 := by omega
    clear hj
    rcases hj4 with rfl | rfl | rfl | rfl | rfl
    · clear hA hB
      go_wp2
      go_roundw
      case rel => exact ⟨1, by omega, rfl, (HN.out _).1, (HN.out _).2.1, (HN.out _).2.2⟩
      case measure => simp [intOf]
    · clear hA hB
      go_wp2
      go_roundw
      case rel => exact ⟨2, by omega, rfl, (HN.out _).1, (HN.out _).2.1, (HN.out _).2.2⟩
      case measure => simp [intOf]
    · clear hA hB
      go_wp2
      go_roundw
      case rel => exact ⟨3, by omega, rfl, (HN.out _).1, (HN.out _).2.1, (HN.out _).2.2⟩
      case measure => simp [intOf]
    · clear hA hB
      go_wp2
      go_roundw
      case rel => exact ⟨4, by omega, rfl, (HN.out _).1, (HN.out _).2.1, (HN.out _).2.2⟩
      case measure => simp [intOf]
    · have f0 := hA.free
      have f1 := hB.free
      obtain ⟨⟨a0, a1, a2, a3⟩, ⟨a4, a5, a6, a7⟩⟩ := hA.eight
      obtain ⟨⟨b0, b1, b2, b3⟩, ⟨b4, b5, b6, b7⟩⟩ := hB.eight
      have HB : Hid (OwnRow wr (w.heap.size + 1) 30 [.bool false, .int .i64 0, .bool false, .int .i64 0, .bool false, .int .i64 0, .bool false, .int .i64 0] ∧ Below w.heap.size w wr) := ⟨hB, hbel⟩
      clear hA hB hbel
      go_wp2
      exact bodyPost_ret (v := kneV no8 0 4) (results_cell_tmps Try.results58 _ _ _ _ _ _ rfl rfl rfl (load8 (row8_set (HB.out.1) _ _ _ _ _ _ _ _))) rfl ⟨rfl, below8_set (HB.out.2) (by simp) _ _ _ _ _ _ _ _⟩

theorem new_any (l : K8) (w : World) :
    Calls Try.prog 58 #[kv l] w fun e w' => e = .returned (kneV (nwL l) (nwN l) (nwE l)) ∧ Below w.heap.size w w' := by
  obtain ⟨t0, d0, t1, d1, t2, d2, t3, d3⟩ := l
  cases t0
  · have hn : nwL (false, d0, t1, d1, t2, d2, t3, d3) = (true, 0, t1, d1, t2, d2, t3, d3) ∧ nwN (false, d0, t1, d1, t2, d2, t3, d3) = 0 ∧ nwE (false, d0, t1, d1, t2, d2, t3, d3) = 0 := by simp [nwL, nwN, nwE, fst4, put]
    rw [hn.1, hn.2.1, hn.2.2]
    exact new_0 t1 t2 t3 d0 d1 d2 d3 w
  cases t1
  · have hn : nwL (true, d0, false, d1, t2, d2, t3, d3) = (true, d0, true, 0, t2, d2, t3, d3) ∧ nwN (true, d0, false, d1, t2, d2, t3, d3) = 1 ∧ nwE (true, d0, false, d1, t2, d2, t3, d3) = 0 := by simp [nwL, nwN, nwE, fst4, put]
    rw [hn.1, hn.2.1, hn.2.2]
    exact new_1 t2 t3 d0 d1 d2 d3 w
  cases t2
  · have hn : nwL (true, d0, true, d1, false, d2, t3, d3) = (true, d0, true, d1, true, 0, t3, d3) ∧ nwN (true, d0, true, d1, false, d2, t3, d3) = 2 ∧ nwE (true, d0, true, d1, false, d2, t3, d3) = 0 := by simp [nwL, nwN, nwE, fst4, put]
    rw [hn.1, hn.2.1, hn.2.2]
    exact new_2 t3 d0 d1 d2 d3 w
  cases t3
  · have hn : nwL (true, d0, true, d1, true, d2, false, d3) = (true, d0, true, d1, true, d2, true, 0) ∧ nwN (true, d0, true, d1, true, d2, false, d3) = 3 ∧ nwE (true, d0, true, d1, true, d2, false, d3) = 0 := by simp [nwL, nwN, nwE, fst4, put]
    rw [hn.1, hn.2.1, hn.2.2]
    exact new_3  d0 d1 d2 d3 w
  · have hn : nwL (true, d0, true, d1, true, d2, true, d3) = no8 ∧ nwN (true, d0, true, d1, true, d2, true, d3) = 0 ∧ nwE (true, d0, true, d1, true, d2, true, d3) = 4 := by simp [nwL, nwN, nwE, fst4, put]
    rw [hn.1, hn.2.1, hn.2.2]
    exact new_4  d0 d1 d2 d3 w

end Go.Proofs.Ytlhmfbkpmfofiai

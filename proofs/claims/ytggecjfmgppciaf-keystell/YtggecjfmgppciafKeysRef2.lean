/- The contract of the document's own answer framewardenref.JChange. -/
import Derived.Test.YtggecjfmgppciafKeysRef1
namespace Go.Proofs.Ytggecjfmgppciaf
open Go.RowKit
set_option linter.unusedSimpArgs false
set_option linter.unusedVariables false

/-- What JChange answers. -/
def chL (l : K8) (k : Int) (m : Nat) (t : Bool) (d : Int) : K8 := if k < m ∨ tk l k = false ∨ d < 0 ∨ 3 < d then no8 else put l k t d
def chE (l : K8) (k : Int) (m : Nat) (d : Int) : Int := if k < m ∨ tk l k = false then 3 else if d < 0 ∨ 3 < d then 2 else 0

set_option maxHeartbeats 1600000 in
theorem jch_out (t0 t1 t2 t3 : Bool) (d0 d1 d2 d3 : Int) (k : Int) (m : Nat) (t : Bool) (d : Int) (w : World) (hm : m ≤ 1) (hk : k < m ∨ 3 < k) :
    Calls Try.prog 22 #[kv (t0, d0, t1, d1, t2, d2, t3, d3), .int .i64 k, .int .i64 m, .agg #[.bool t, .int .i64 d]] w fun e w' => e = .returned (keV no8 3) ∧ Below w.heap.size w w' := by
  have H2 : Hid (∀ wr, wr = ((w.alloc (.cells #[.bool t0, .int .i64 d0, .bool t1, .int .i64 d1, .bool t2, .int .i64 d2, .bool t3, .int .i64 d3] 45)).alloc (.cells #[.bool t, .int .i64 d] 44)).alloc (.cells #[.bool false, .int .i64 0, .bool false, .int .i64 0, .bool false, .int .i64 0, .bool false, .int .i64 0] 45) → OwnRow wr w.heap.size 45 [.bool t0, .int .i64 d0, .bool t1, .int .i64 d1, .bool t2, .int .i64 d2, .bool t3, .int .i64 d3] ∧ OwnRow wr (w.heap.size + 1) 44 [.bool t, .int .i64 d] ∧ OwnRow wr (w.heap.size + 2) 45 [.bool false, .int .i64 0, .bool false, .int .i64 0, .bool false, .int .i64 0, .bool false, .int .i64 0] ∧ Below w.heap.size w wr) := by
    intro wr hwr
    have h2 := own_two (w := w) (xs := [.bool t0, .int .i64 d0, .bool t1, .int .i64 d1, .bool t2, .int .i64 d2, .bool t3, .int .i64 d3]) (ys := [.bool t, .int .i64 d]) (e := 45) (e' := 44) (Below.refl _ _)
    rw [hwr]
    refine ⟨h2.1.alloc _, h2.2.alloc _, ?_, (((Below.refl _ _).alloc (Nat.le_refl _) _).alloc (by simp) _).alloc (by simp; omega) _⟩
    have := heap_alloc_new ((w.alloc (.cells #[.bool t0, .int .i64 d0, .bool t1, .int .i64 d1, .bool t2, .int .i64 d2, .bool t3, .int .i64 d3] 45)).alloc (.cells #[.bool t, .int .i64 d] 44)) (.cells #[.bool false, .int .i64 0, .bool false, .int .i64 0, .bool false, .int .i64 0, .bool false, .int .i64 0] 45)
    simpa [OwnRow] using this
  go_enter Try.func22, Try.ntmps22
  go_wp2_with fail
  go_loopw [10] (fun i wr => ∃ j : Nat, m ≤ j ∧ j ≤ 4 ∧ i = .int .i64 j ∧ OwnRow wr w.heap.size 45 [.bool t0, .int .i64 d0, .bool t1, .int .i64 d1, .bool t2, .int .i64 d2, .bool t3, .int .i64 d3] ∧ OwnRow wr (w.heap.size + 1) 44 [.bool t, .int .i64 d] ∧ OwnRow wr (w.heap.size + 2) 45 [.bool false, .int .i64 0, .bool false, .int .i64 0, .bool false, .int .i64 0, .bool false, .int .i64 0] ∧ Below w.heap.size w wr) (fun i _ => 4 - (intOf i).toNat)
  case atStart => exact ⟨m, by omega, by omega, rfl, H2.out _ rfl⟩
  case round =>
    clear H2
    obtain ⟨j, hmj, hj, rfl, hA, hC, hB, hbel⟩ := hrel
    have hzB : w.heap.size + 2 < wr.heap.size := hB.lt
    have hzC : w.heap.size + 1 < wr.heap.size := hC.lt
    have hzA : w.heap.size < wr.heap.size := hA.lt
    have hj4 : j = 0 ∨ j = 1 ∨ j = 2 ∨ j = 3 ∨ j = 4 := by omega
    rcases hj4 with rfl | rfl | rfl | rfl | rfl
    · have hne : ((0 : Int) == k) = false := by simp; omega
      clear hk
      have f0 := hA.free
      have f1 := hB.free
      obtain ⟨⟨a0, a1, a2, a3⟩, ⟨a4, a5, a6, a7⟩⟩ := hA.eight
      obtain ⟨⟨b0, b1, b2, b3⟩, ⟨b4, b5, b6, b7⟩⟩ := hB.eight
      obtain ⟨⟨c0, c1⟩, -⟩ := hC.pair
      have HN : Hid (OwnRow wr w.heap.size 45 [.bool t0, .int .i64 d0, .bool t1, .int .i64 d1, .bool t2, .int .i64 d2, .bool t3, .int .i64 d3] ∧ OwnRow wr (w.heap.size + 1) 44 [.bool t, .int .i64 d] ∧ OwnRow wr (w.heap.size + 2) 45 [.bool false, .int .i64 0, .bool false, .int .i64 0, .bool false, .int .i64 0, .bool false, .int .i64 0] ∧ Below w.heap.size w wr) := ⟨hA, hC, hB, hbel⟩
      clear hA hB hC hj
      go_wp2
      go_roundw
      case rel => exact ⟨1, by omega, by omega, rfl, HN.out⟩
      case measure => simp [intOf]
    · have hne : ((1 : Int) == k) = false := by simp; omega
      clear hk
      have f0 := hA.free
      have f1 := hB.free
      obtain ⟨⟨a0, a1, a2, a3⟩, ⟨a4, a5, a6, a7⟩⟩ := hA.eight
      obtain ⟨⟨b0, b1, b2, b3⟩, ⟨b4, b5, b6, b7⟩⟩ := hB.eight
      obtain ⟨⟨c0, c1⟩, -⟩ := hC.pair
      have HN : Hid (OwnRow wr w.heap.size 45 [.bool t0, .int .i64 d0, .bool t1, .int .i64 d1, .bool t2, .int .i64 d2, .bool t3, .int .i64 d3] ∧ OwnRow wr (w.heap.size + 1) 44 [.bool t, .int .i64 d] ∧ OwnRow wr (w.heap.size + 2) 45 [.bool false, .int .i64 0, .bool false, .int .i64 0, .bool false, .int .i64 0, .bool false, .int .i64 0] ∧ Below w.heap.size w wr) := ⟨hA, hC, hB, hbel⟩
      clear hA hB hC hj
      go_wp2
      go_roundw
      case rel => exact ⟨2, by omega, by omega, rfl, HN.out⟩
      case measure => simp [intOf]
    · have hne : ((2 : Int) == k) = false := by simp; omega
      clear hk
      have f0 := hA.free
      have f1 := hB.free
      obtain ⟨⟨a0, a1, a2, a3⟩, ⟨a4, a5, a6, a7⟩⟩ := hA.eight
      obtain ⟨⟨b0, b1, b2, b3⟩, ⟨b4, b5, b6, b7⟩⟩ := hB.eight
      obtain ⟨⟨c0, c1⟩, -⟩ := hC.pair
      have HN : Hid (OwnRow wr w.heap.size 45 [.bool t0, .int .i64 d0, .bool t1, .int .i64 d1, .bool t2, .int .i64 d2, .bool t3, .int .i64 d3] ∧ OwnRow wr (w.heap.size + 1) 44 [.bool t, .int .i64 d] ∧ OwnRow wr (w.heap.size + 2) 45 [.bool false, .int .i64 0, .bool false, .int .i64 0, .bool false, .int .i64 0, .bool false, .int .i64 0] ∧ Below w.heap.size w wr) := ⟨hA, hC, hB, hbel⟩
      clear hA hB hC hj
      go_wp2
      go_roundw
      case rel => exact ⟨3, by omega, by omega, rfl, HN.out⟩
      case measure => simp [intOf]
    · have hne : ((3 : Int) == k) = false := by simp; omega
      clear hk
      have f0 := hA.free
      have f1 := hB.free
      obtain ⟨⟨a0, a1, a2, a3⟩, ⟨a4, a5, a6, a7⟩⟩ := hA.eight
      obtain ⟨⟨b0, b1, b2, b3⟩, ⟨b4, b5, b6, b7⟩⟩ := hB.eight
      obtain ⟨⟨c0, c1⟩, -⟩ := hC.pair
      have HN : Hid (OwnRow wr w.heap.size 45 [.bool t0, .int .i64 d0, .bool t1, .int .i64 d1, .bool t2, .int .i64 d2, .bool t3, .int .i64 d3] ∧ OwnRow wr (w.heap.size + 1) 44 [.bool t, .int .i64 d] ∧ OwnRow wr (w.heap.size + 2) 45 [.bool false, .int .i64 0, .bool false, .int .i64 0, .bool false, .int .i64 0, .bool false, .int .i64 0] ∧ Below w.heap.size w wr) := ⟨hA, hC, hB, hbel⟩
      clear hA hB hC hj
      go_wp2
      go_roundw
      case rel => exact ⟨4, by omega, by omega, rfl, HN.out⟩
      case measure => simp [intOf]
    · have f0 := hA.free
      have f1 := hB.free
      obtain ⟨⟨a0, a1, a2, a3⟩, ⟨a4, a5, a6, a7⟩⟩ := hA.eight
      obtain ⟨⟨b0, b1, b2, b3⟩, ⟨b4, b5, b6, b7⟩⟩ := hB.eight
      obtain ⟨⟨c0, c1⟩, -⟩ := hC.pair
      have HB : Hid (OwnRow wr (w.heap.size + 2) 45 [.bool false, .int .i64 0, .bool false, .int .i64 0, .bool false, .int .i64 0, .bool false, .int .i64 0] ∧ Below w.heap.size w wr) := ⟨hB, hbel⟩
      clear hA hB hC hbel
      go_wp2
      exact bodyPost_ret (v := keV no8 3) (results_cell_tmp Try.results22 _ _ _ _ _ rfl rfl (load8 (row8_set (HB.out.1) _ _ _ _ _ _ _ _))) rfl ⟨rfl, below8_set (HB.out.2) (by omega) _ _ _ _ _ _ _ _⟩

set_option maxHeartbeats 1600000 in
theorem jch_no_0 (t1 t2 t3 : Bool) (d0 d1 d2 d3 : Int) (m : Nat) (t : Bool) (d : Int) (w : World) (hm : m ≤ 0) :
    Calls Try.prog 22 #[kv (false, d0, t1, d1, t2, d2, t3, d3), .int .i64 0, .int .i64 m, .agg #[.bool t, .int .i64 d]] w fun e w' => e = .returned (keV no8 3) ∧ Below w.heap.size w w' := by
  have H2 : Hid (∀ wr, wr = ((w.alloc (.cells #[.bool false, .int .i64 d0, .bool t1, .int .i64 d1, .bool t2, .int .i64 d2, .bool t3, .int .i64 d3] 45)).alloc (.cells #[.bool t, .int .i64 d] 44)).alloc (.cells #[.bool false, .int .i64 0, .bool false, .int .i64 0, .bool false, .int .i64 0, .bool false, .int .i64 0] 45) → OwnRow wr w.heap.size 45 [.bool false, .int .i64 d0, .bool t1, .int .i64 d1, .bool t2, .int .i64 d2, .bool t3, .int .i64 d3] ∧ OwnRow wr (w.heap.size + 1) 44 [.bool t, .int .i64 d] ∧ OwnRow wr (w.heap.size + 2) 45 [.bool false, .int .i64 0, .bool false, .int .i64 0, .bool false, .int .i64 0, .bool false, .int .i64 0] ∧ Below w.heap.size w wr) := by
    intro wr hwr
    have h2 := own_two (w := w) (xs := [.bool false, .int .i64 d0, .bool t1, .int .i64 d1, .bool t2, .int .i64 d2, .bool t3, .int .i64 d3]) (ys := [.bool t, .int .i64 d]) (e := 45) (e' := 44) (Below.refl _ _)
    rw [hwr]
    refine ⟨h2.1.alloc _, h2.2.alloc _, ?_, (((Below.refl _ _).alloc (Nat.le_refl _) _).alloc (by simp) _).alloc (by simp; omega) _⟩
    have := heap_alloc_new ((w.alloc (.cells #[.bool false, .int .i64 d0, .bool t1, .int .i64 d1, .bool t2, .int .i64 d2, .bool t3, .int .i64 d3] 45)).alloc (.cells #[.bool t, .int .i64 d] 44)) (.cells #[.bool false, .int .i64 0, .bool false, .int .i64 0, .bool false, .int .i64 0, .bool false, .int .i64 0] 45)
    simpa [OwnRow] using this
  go_enter Try.func22, Try.ntmps22
  go_wp2_with fail
  go_loopw [10] (fun i wr => ∃ j : Nat, m ≤ j ∧ j ≤ 4 ∧ i = .int .i64 j ∧ OwnRow wr w.heap.size 45 [.bool false, .int .i64 d0, .bool t1, .int .i64 d1, .bool t2, .int .i64 d2, .bool t3, .int .i64 d3] ∧ OwnRow wr (w.heap.size + 1) 44 [.bool t, .int .i64 d] ∧ OwnRow wr (w.heap.size + 2) 45 [.bool false, .int .i64 0, .bool false, .int .i64 0, .bool false, .int .i64 0, .bool false, .int .i64 0] ∧ Below w.heap.size w wr) (fun i _ => 4 - (intOf i).toNat)
  case atStart => exact ⟨m, by omega, by omega, rfl, H2.out _ rfl⟩
  case round =>
    clear H2
    obtain ⟨j, hmj, hj, rfl, hA, hC, hB, hbel⟩ := hrel
    have hzB : w.heap.size + 2 < wr.heap.size := hB.lt
    have hzC : w.heap.size + 1 < wr.heap.size := hC.lt
    have hzA : w.heap.size < wr.heap.size := hA.lt
    have hj4 : j = 0 ∨ j = 1 ∨ j = 2 ∨ j = 3 ∨ j = 4 := by omega
    rcases hj4 with rfl | rfl | rfl | rfl | rfl
    · have f0 := hA.free
      have f1 := hB.free
      obtain ⟨⟨a0, a1, a2, a3⟩, ⟨a4, a5, a6, a7⟩⟩ := hA.eight
      obtain ⟨⟨b0, b1, b2, b3⟩, ⟨b4, b5, b6, b7⟩⟩ := hB.eight
      obtain ⟨⟨c0, c1⟩, -⟩ := hC.pair
      have HN : Hid (OwnRow wr w.heap.size 45 [.bool false, .int .i64 d0, .bool t1, .int .i64 d1, .bool t2, .int .i64 d2, .bool t3, .int .i64 d3] ∧ OwnRow wr (w.heap.size + 1) 44 [.bool t, .int .i64 d] ∧ OwnRow wr (w.heap.size + 2) 45 [.bool false, .int .i64 0, .bool false, .int .i64 0, .bool false, .int .i64 0, .bool false, .int .i64 0] ∧ Below w.heap.size w wr) := ⟨hA, hC, hB, hbel⟩
      clear hA hB hC hj
      go_wp2
      go_roundw
      case rel => exact ⟨1, by omega, by omega, rfl, HN.out⟩
      case measure => simp [intOf]
    · have f0 := hA.free
      have f1 := hB.free
      obtain ⟨⟨a0, a1, a2, a3⟩, ⟨a4, a5, a6, a7⟩⟩ := hA.eight
      obtain ⟨⟨b0, b1, b2, b3⟩, ⟨b4, b5, b6, b7⟩⟩ := hB.eight
      obtain ⟨⟨c0, c1⟩, -⟩ := hC.pair
      have HN : Hid (OwnRow wr w.heap.size 45 [.bool false, .int .i64 d0, .bool t1, .int .i64 d1, .bool t2, .int .i64 d2, .bool t3, .int .i64 d3] ∧ OwnRow wr (w.heap.size + 1) 44 [.bool t, .int .i64 d] ∧ OwnRow wr (w.heap.size + 2) 45 [.bool false, .int .i64 0, .bool false, .int .i64 0, .bool false, .int .i64 0, .bool false, .int .i64 0] ∧ Below w.heap.size w wr) := ⟨hA, hC, hB, hbel⟩
      clear hA hB hC hj
      go_wp2
      go_roundw
      case rel => exact ⟨2, by omega, by omega, rfl, HN.out⟩
      case measure => simp [intOf]
    · have f0 := hA.free
      have f1 := hB.free
      obtain ⟨⟨a0, a1, a2, a3⟩, ⟨a4, a5, a6, a7⟩⟩ := hA.eight
      obtain ⟨⟨b0, b1, b2, b3⟩, ⟨b4, b5, b6, b7⟩⟩ := hB.eight
      obtain ⟨⟨c0, c1⟩, -⟩ := hC.pair
      have HN : Hid (OwnRow wr w.heap.size 45 [.bool false, .int .i64 d0, .bool t1, .int .i64 d1, .bool t2, .int .i64 d2, .bool t3, .int .i64 d3] ∧ OwnRow wr (w.heap.size + 1) 44 [.bool t, .int .i64 d] ∧ OwnRow wr (w.heap.size + 2) 45 [.bool false, .int .i64 0, .bool false, .int .i64 0, .bool false, .int .i64 0, .bool false, .int .i64 0] ∧ Below w.heap.size w wr) := ⟨hA, hC, hB, hbel⟩
      clear hA hB hC hj
      go_wp2
      go_roundw
      case rel => exact ⟨3, by omega, by omega, rfl, HN.out⟩
      case measure => simp [intOf]
    · have f0 := hA.free
      have f1 := hB.free
      obtain ⟨⟨a0, a1, a2, a3⟩, ⟨a4, a5, a6, a7⟩⟩ := hA.eight
      obtain ⟨⟨b0, b1, b2, b3⟩, ⟨b4, b5, b6, b7⟩⟩ := hB.eight
      obtain ⟨⟨c0, c1⟩, -⟩ := hC.pair
      have HN : Hid (OwnRow wr w.heap.size 45 [.bool false, .int .i64 d0, .bool t1, .int .i64 d1, .bool t2, .int .i64 d2, .bool t3, .int .i64 d3] ∧ OwnRow wr (w.heap.size + 1) 44 [.bool t, .int .i64 d] ∧ OwnRow wr (w.heap.size + 2) 45 [.bool false, .int .i64 0, .bool false, .int .i64 0, .bool false, .int .i64 0, .bool false, .int .i64 0] ∧ Below w.heap.size w wr) := ⟨hA, hC, hB, hbel⟩
      clear hA hB hC hj
      go_wp2
      go_roundw
      case rel => exact ⟨4, by omega, by omega, rfl, HN.out⟩
      case measure => simp [intOf]
    · have f0 := hA.free
      have f1 := hB.free
      obtain ⟨⟨a0, a1, a2, a3⟩, ⟨a4, a5, a6, a7⟩⟩ := hA.eight
      obtain ⟨⟨b0, b1, b2, b3⟩, ⟨b4, b5, b6, b7⟩⟩ := hB.eight
      obtain ⟨⟨c0, c1⟩, -⟩ := hC.pair
      have HB : Hid (OwnRow wr (w.heap.size + 2) 45 [.bool false, .int .i64 0, .bool false, .int .i64 0, .bool false, .int .i64 0, .bool false, .int .i64 0] ∧ Below w.heap.size w wr) := ⟨hB, hbel⟩
      clear hA hB hC hbel
      go_wp2
      exact bodyPost_ret (v := keV no8 3) (results_cell_tmp Try.results22 _ _ _ _ _ rfl rfl (load8 (row8_set (HB.out.1) _ _ _ _ _ _ _ _))) rfl ⟨rfl, below8_set (HB.out.2) (by omega) _ _ _ _ _ _ _ _⟩

set_option maxHeartbeats 1600000 in
theorem jch_no_1 (t0 t2 t3 : Bool) (d0 d1 d2 d3 : Int) (m : Nat) (t : Bool) (d : Int) (w : World) (hm : m ≤ 1) :
    Calls Try.prog 22 #[kv (t0, d0, false, d1, t2, d2, t3, d3), .int .i64 1, .int .i64 m, .agg #[.bool t, .int .i64 d]] w fun e w' => e = .returned (keV no8 3) ∧ Below w.heap.size w w' := by
  have H2 : Hid (∀ wr, wr = ((w.alloc (.cells #[.bool t0, .int .i64 d0, .bool false, .int .i64 d1, .bool t2, .int .i64 d2, .bool t3, .int .i64 d3] 45)).alloc (.cells #[.bool t, .int .i64 d] 44)).alloc (.cells #[.bool false, .int .i64 0, .bool false, .int .i64 0, .bool false, .int .i64 0, .bool false, .int .i64 0] 45) → OwnRow wr w.heap.size 45 [.bool t0, .int .i64 d0, .bool false, .int .i64 d1, .bool t2, .int .i64 d2, .bool t3, .int .i64 d3] ∧ OwnRow wr (w.heap.size + 1) 44 [.bool t, .int .i64 d] ∧ OwnRow wr (w.heap.size + 2) 45 [.bool false, .int .i64 0, .bool false, .int .i64 0, .bool false, .int .i64 0, .bool false, .int .i64 0] ∧ Below w.heap.size w wr) := by
    intro wr hwr
    have h2 := own_two (w := w) (xs := [.bool t0, .int .i64 d0, .bool false, .int .i64 d1, .bool t2, .int .i64 d2, .bool t3, .int .i64 d3]) (ys := [.bool t, .int .i64 d]) (e := 45) (e' := 44) (Below.refl _ _)
    rw [hwr]
    refine ⟨h2.1.alloc _, h2.2.alloc _, ?_, (((Below.refl _ _).alloc (Nat.le_refl _) _).alloc (by simp) _).alloc (by simp; omega) _⟩
    have := heap_alloc_new ((w.alloc (.cells #[.bool t0, .int .i64 d0, .bool false, .int .i64 d1, .bool t2, .int .i64 d2, .bool t3, .int .i64 d3] 45)).alloc (.cells #[.bool t, .int .i64 d] 44)) (.cells #[.bool false, .int .i64 0, .bool false, .int .i64 0, .bool false, .int .i64 0, .bool false, .int .i64 0] 45)
    simpa [OwnRow] using this
  go_enter Try.func22, Try.ntmps22
  go_wp2_with fail
  go_loopw [10] (fun i wr => ∃ j : Nat, m ≤ j ∧ j ≤ 4 ∧ i = .int .i64 j ∧ OwnRow wr w.heap.size 45 [.bool t0, .int .i64 d0, .bool false, .int .i64 d1, .bool t2, .int .i64 d2, .bool t3, .int .i64 d3] ∧ OwnRow wr (w.heap.size + 1) 44 [.bool t, .int .i64 d] ∧ OwnRow wr (w.heap.size + 2) 45 [.bool false, .int .i64 0, .bool false, .int .i64 0, .bool false, .int .i64 0, .bool false, .int .i64 0] ∧ Below w.heap.size w wr) (fun i _ => 4 - (intOf i).toNat)
  case atStart => exact ⟨m, by omega, by omega, rfl, H2.out _ rfl⟩
  case round =>
    clear H2
    obtain ⟨j, hmj, hj, rfl, hA, hC, hB, hbel⟩ := hrel
    have hzB : w.heap.size + 2 < wr.heap.size := hB.lt
    have hzC : w.heap.size + 1 < wr.heap.size := hC.lt
    have hzA : w.heap.size < wr.heap.size := hA.lt
    have hj4 : j = 0 ∨ j = 1 ∨ j = 2 ∨ j = 3 ∨ j = 4 := by omega
    rcases hj4 with rfl | rfl | rfl | rfl | rfl
    · have f0 := hA.free
      have f1 := hB.free
      obtain ⟨⟨a0, a1, a2, a3⟩, ⟨a4, a5, a6, a7⟩⟩ := hA.eight
      obtain ⟨⟨b0, b1, b2, b3⟩, ⟨b4, b5, b6, b7⟩⟩ := hB.eight
      obtain ⟨⟨c0, c1⟩, -⟩ := hC.pair
      have HN : Hid (OwnRow wr w.heap.size 45 [.bool t0, .int .i64 d0, .bool false, .int .i64 d1, .bool t2, .int .i64 d2, .bool t3, .int .i64 d3] ∧ OwnRow wr (w.heap.size + 1) 44 [.bool t, .int .i64 d] ∧ OwnRow wr (w.heap.size + 2) 45 [.bool false, .int .i64 0, .bool false, .int .i64 0, .bool false, .int .i64 0, .bool false, .int .i64 0] ∧ Below w.heap.size w wr) := ⟨hA, hC, hB, hbel⟩
      clear hA hB hC hj
      go_wp2
      go_roundw
      case rel => exact ⟨1, by omega, by omega, rfl, HN.out⟩
      case measure => simp [intOf]
    · have f0 := hA.free
      have f1 := hB.free
      obtain ⟨⟨a0, a1, a2, a3⟩, ⟨a4, a5, a6, a7⟩⟩ := hA.eight
      obtain ⟨⟨b0, b1, b2, b3⟩, ⟨b4, b5, b6, b7⟩⟩ := hB.eight
      obtain ⟨⟨c0, c1⟩, -⟩ := hC.pair
      have HN : Hid (OwnRow wr w.heap.size 45 [.bool t0, .int .i64 d0, .bool false, .int .i64 d1, .bool t2, .int .i64 d2, .bool t3, .int .i64 d3] ∧ OwnRow wr (w.heap.size + 1) 44 [.bool t, .int .i64 d] ∧ OwnRow wr (w.heap.size + 2) 45 [.bool false, .int .i64 0, .bool false, .int .i64 0, .bool false, .int .i64 0, .bool false, .int .i64 0] ∧ Below w.heap.size w wr) := ⟨hA, hC, hB, hbel⟩
      clear hA hB hC hj
      go_wp2
      go_roundw
      case rel => exact ⟨2, by omega, by omega, rfl, HN.out⟩
      case measure => simp [intOf]
    · have f0 := hA.free
      have f1 := hB.free
      obtain ⟨⟨a0, a1, a2, a3⟩, ⟨a4, a5, a6, a7⟩⟩ := hA.eight
      obtain ⟨⟨b0, b1, b2, b3⟩, ⟨b4, b5, b6, b7⟩⟩ := hB.eight
      obtain ⟨⟨c0, c1⟩, -⟩ := hC.pair
      have HN : Hid (OwnRow wr w.heap.size 45 [.bool t0, .int .i64 d0, .bool false, .int .i64 d1, .bool t2, .int .i64 d2, .bool t3, .int .i64 d3] ∧ OwnRow wr (w.heap.size + 1) 44 [.bool t, .int .i64 d] ∧ OwnRow wr (w.heap.size + 2) 45 [.bool false, .int .i64 0, .bool false, .int .i64 0, .bool false, .int .i64 0, .bool false, .int .i64 0] ∧ Below w.heap.size w wr) := ⟨hA, hC, hB, hbel⟩
      clear hA hB hC hj
      go_wp2
      go_roundw
      case rel => exact ⟨3, by omega, by omega, rfl, HN.out⟩
      case measure => simp [intOf]
    · have f0 := hA.free
      have f1 := hB.free
      obtain ⟨⟨a0, a1, a2, a3⟩, ⟨a4, a5, a6, a7⟩⟩ := hA.eight
      obtain ⟨⟨b0, b1, b2, b3⟩, ⟨b4, b5, b6, b7⟩⟩ := hB.eight
      obtain ⟨⟨c0, c1⟩, -⟩ := hC.pair
      have HN : Hid (OwnRow wr w.heap.size 45 [.bool t0, .int .i64 d0, .bool false, .int .i64 d1, .bool t2, .int .i64 d2, .bool t3, .int .i64 d3] ∧ OwnRow wr (w.heap.size + 1) 44 [.bool t, .int .i64 d] ∧ OwnRow wr (w.heap.size + 2) 45 [.bool false, .int .i64 0, .bool false, .int .i64 0, .bool false, .int .i64 0, .bool false, .int .i64 0] ∧ Below w.heap.size w wr) := ⟨hA, hC, hB, hbel⟩
      clear hA hB hC hj
      go_wp2
      go_roundw
      case rel => exact ⟨4, by omega, by omega, rfl, HN.out⟩
      case measure => simp [intOf]
    · have f0 := hA.free
      have f1 := hB.free
      obtain ⟨⟨a0, a1, a2, a3⟩, ⟨a4, a5, a6, a7⟩⟩ := hA.eight
      obtain ⟨⟨b0, b1, b2, b3⟩, ⟨b4, b5, b6, b7⟩⟩ := hB.eight
      obtain ⟨⟨c0, c1⟩, -⟩ := hC.pair
      have HB : Hid (OwnRow wr (w.heap.size + 2) 45 [.bool false, .int .i64 0, .bool false, .int .i64 0, .bool false, .int .i64 0, .bool false, .int .i64 0] ∧ Below w.heap.size w wr) := ⟨hB, hbel⟩
      clear hA hB hC hbel
      go_wp2
      exact bodyPost_ret (v := keV no8 3) (results_cell_tmp Try.results22 _ _ _ _ _ rfl rfl (load8 (row8_set (HB.out.1) _ _ _ _ _ _ _ _))) rfl ⟨rfl, below8_set (HB.out.2) (by omega) _ _ _ _ _ _ _ _⟩

set_option maxHeartbeats 1600000 in
theorem jch_no_2 (t0 t1 t3 : Bool) (d0 d1 d2 d3 : Int) (m : Nat) (t : Bool) (d : Int) (w : World) (hm : m ≤ 2) :
    Calls Try.prog 22 #[kv (t0, d0, t1, d1, false, d2, t3, d3), .int .i64 2, .int .i64 m, .agg #[.bool t, .int .i64 d]] w fun e w' => e = .returned (keV no8 3) ∧ Below w.heap.size w w' := by
  have H2 : Hid (∀ wr, wr = ((w.alloc (.cells #[.bool t0, .int .i64 d0, .bool t1, .int .i64 d1, .bool false, .int .i64 d2, .bool t3, .int .i64 d3] 45)).alloc (.cells #[.bool t, .int .i64 d] 44)).alloc (.cells #[.bool false, .int .i64 0, .bool false, .int .i64 0, .bool false, .int .i64 0, .bool false, .int .i64 0] 45) → OwnRow wr w.heap.size 45 [.bool t0, .int .i64 d0, .bool t1, .int .i64 d1, .bool false, .int .i64 d2, .bool t3, .int .i64 d3] ∧ OwnRow wr (w.heap.size + 1) 44 [.bool t, .int .i64 d] ∧ OwnRow wr (w.heap.size + 2) 45 [.bool false, .int .i64 0, .bool false, .int .i64 0, .bool false, .int .i64 0, .bool false, .int .i64 0] ∧ Below w.heap.size w wr) := by
    intro wr hwr
    have h2 := own_two (w := w) (xs := [.bool t0, .int .i64 d0, .bool t1, .int .i64 d1, .bool false, .int .i64 d2, .bool t3, .int .i64 d3]) (ys := [.bool t, .int .i64 d]) (e := 45) (e' := 44) (Below.refl _ _)
    rw [hwr]
    refine ⟨h2.1.alloc _, h2.2.alloc _, ?_, (((Below.refl _ _).alloc (Nat.le_refl _) _).alloc (by simp) _).alloc (by simp; omega) _⟩
    have := heap_alloc_new ((w.alloc (.cells #[.bool t0, .int .i64 d0, .bool t1, .int .i64 d1, .bool false, .int .i64 d2, .bool t3, .int .i64 d3] 45)).alloc (.cells #[.bool t, .int .i64 d] 44)) (.cells #[.bool false, .int .i64 0, .bool false, .int .i64 0, .bool false, .int .i64 0, .bool false, .int .i64 0] 45)
    simpa [OwnRow] using this
  go_enter Try.func22, Try.ntmps22
  go_wp2_with fail
  go_loopw [10] (fun i wr => ∃ j : Nat, m ≤ j ∧ j ≤ 4 ∧ i = .int .i64 j ∧ OwnRow wr w.heap.size 45 [.bool t0, .int .i64 d0, .bool t1, .int .i64 d1, .bool false, .int .i64 d2, .bool t3, .int .i64 d3] ∧ OwnRow wr (w.heap.size + 1) 44 [.bool t, .int .i64 d] ∧ OwnRow wr (w.heap.size + 2) 45 [.bool false, .int .i64 0, .bool false, .int .i64 0, .bool false, .int .i64 0, .bool false, .int .i64 0] ∧ Below w.heap.size w wr) (fun i _ => 4 - (intOf i).toNat)
  case atStart => exact ⟨m, by omega, by omega, rfl, H2.out _ rfl⟩
  case round =>
    clear H2
    obtain ⟨j, hmj, hj, rfl, hA, hC, hB, hbel⟩ := hrel
    have hzB : w.heap.size + 2 < wr.heap.size := hB.lt
    have hzC : w.heap.size + 1 < wr.heap.size := hC.lt
    have hzA : w.heap.size < wr.heap.size := hA.lt
    have hj4 : j = 0 ∨ j = 1 ∨ j = 2 ∨ j = 3 ∨ j = 4 := by omega
    rcases hj4 with rfl | rfl | rfl | rfl | rfl
    · have f0 := hA.free
      have f1 := hB.free
      obtain ⟨⟨a0, a1, a2, a3⟩, ⟨a4, a5, a6, a7⟩⟩ := hA.eight
      obtain ⟨⟨b0, b1, b2, b3⟩, ⟨b4, b5, b6, b7⟩⟩ := hB.eight
      obtain ⟨⟨c0, c1⟩, -⟩ := hC.pair
      have HN : Hid (OwnRow wr w.heap.size 45 [.bool t0, .int .i64 d0, .bool t1, .int .i64 d1, .bool false, .int .i64 d2, .bool t3, .int .i64 d3] ∧ OwnRow wr (w.heap.size + 1) 44 [.bool t, .int .i64 d] ∧ OwnRow wr (w.heap.size + 2) 45 [.bool false, .int .i64 0, .bool false, .int .i64 0, .bool false, .int .i64 0, .bool false, .int .i64 0] ∧ Below w.heap.size w wr) := ⟨hA, hC, hB, hbel⟩
      clear hA hB hC hj
      go_wp2
      go_roundw
      case rel => exact ⟨1, by omega, by omega, rfl, HN.out⟩
      case measure => simp [intOf]
    · have f0 := hA.free
      have f1 := hB.free
      obtain ⟨⟨a0, a1, a2, a3⟩, ⟨a4, a5, a6, a7⟩⟩ := hA.eight
      obtain ⟨⟨b0, b1, b2, b3⟩, ⟨b4, b5, b6, b7⟩⟩ := hB.eight
      obtain ⟨⟨c0, c1⟩, -⟩ := hC.pair
      have HN : Hid (OwnRow wr w.heap.size 45 [.bool t0, .int .i64 d0, .bool t1, .int .i64 d1, .bool false, .int .i64 d2, .bool t3, .int .i64 d3] ∧ OwnRow wr (w.heap.size + 1) 44 [.bool t, .int .i64 d] ∧ OwnRow wr (w.heap.size + 2) 45 [.bool false, .int .i64 0, .bool false, .int .i64 0, .bool false, .int .i64 0, .bool false, .int .i64 0] ∧ Below w.heap.size w wr) := ⟨hA, hC, hB, hbel⟩
      clear hA hB hC hj
      go_wp2
      go_roundw
      case rel => exact ⟨2, by omega, by omega, rfl, HN.out⟩
      case measure => simp [intOf]
    · have f0 := hA.free
      have f1 := hB.free
      obtain ⟨⟨a0, a1, a2, a3⟩, ⟨a4, a5, a6, a7⟩⟩ := hA.eight
      obtain ⟨⟨b0, b1, b2, b3⟩, ⟨b4, b5, b6, b7⟩⟩ := hB.eight
      obtain ⟨⟨c0, c1⟩, -⟩ := hC.pair
      have HN : Hid (OwnRow wr w.heap.size 45 [.bool t0, .int .i64 d0, .bool t1, .int .i64 d1, .bool false, .int .i64 d2, .bool t3, .int .i64 d3] ∧ OwnRow wr (w.heap.size + 1) 44 [.bool t, .int .i64 d] ∧ OwnRow wr (w.heap.size + 2) 45 [.bool false, .int .i64 0, .bool false, .int .i64 0, .bool false, .int .i64 0, .bool false, .int .i64 0] ∧ Below w.heap.size w wr) := ⟨hA, hC, hB, hbel⟩
      clear hA hB hC hj
      go_wp2
      go_roundw
      case rel => exact ⟨3, by omega, by omega, rfl, HN.out⟩
      case measure => simp [intOf]
    · have f0 := hA.free
      have f1 := hB.free
      obtain ⟨⟨a0, a1, a2, a3⟩, ⟨a4, a5, a6, a7⟩⟩ := hA.eight
      obtain ⟨⟨b0, b1, b2, b3⟩, ⟨b4, b5, b6, b7⟩⟩ := hB.eight
      obtain ⟨⟨c0, c1⟩, -⟩ := hC.pair
      have HN : Hid (OwnRow wr w.heap.size 45 [.bool t0, .int .i64 d0, .bool t1, .int .i64 d1, .bool false, .int .i64 d2, .bool t3, .int .i64 d3] ∧ OwnRow wr (w.heap.size + 1) 44 [.bool t, .int .i64 d] ∧ OwnRow wr (w.heap.size + 2) 45 [.bool false, .int .i64 0, .bool false, .int .i64 0, .bool false, .int .i64 0, .bool false, .int .i64 0] ∧ Below w.heap.size w wr) := ⟨hA, hC, hB, hbel⟩
      clear hA hB hC hj
      go_wp2
      go_roundw
      case rel => exact ⟨4, by omega, by omega, rfl, HN.out⟩
      case measure => simp [intOf]
    · have f0 := hA.free
      have f1 := hB.free
      obtain ⟨⟨a0, a1, a2, a3⟩, ⟨a4, a5, a6, a7⟩⟩ := hA.eight
      obtain ⟨⟨b0, b1, b2, b3⟩, ⟨b4, b5, b6, b7⟩⟩ := hB.eight
      obtain ⟨⟨c0, c1⟩, -⟩ := hC.pair
      have HB : Hid (OwnRow wr (w.heap.size + 2) 45 [.bool false, .int .i64 0, .bool false, .int .i64 0, .bool false, .int .i64 0, .bool false, .int .i64 0] ∧ Below w.heap.size w wr) := ⟨hB, hbel⟩
      clear hA hB hC hbel
      go_wp2
      exact bodyPost_ret (v := keV no8 3) (results_cell_tmp Try.results22 _ _ _ _ _ rfl rfl (load8 (row8_set (HB.out.1) _ _ _ _ _ _ _ _))) rfl ⟨rfl, below8_set (HB.out.2) (by omega) _ _ _ _ _ _ _ _⟩

set_option maxHeartbeats 1600000 in
theorem jch_no_3 (t0 t1 t2 : Bool) (d0 d1 d2 d3 : Int) (m : Nat) (t : Bool) (d : Int) (w : World) (hm : m ≤ 3) :
    Calls Try.prog 22 #[kv (t0, d0, t1, d1, t2, d2, false, d3), .int .i64 3, .int .i64 m, .agg #[.bool t, .int .i64 d]] w fun e w' => e = .returned (keV no8 3) ∧ Below w.heap.size w w' := by
  have H2 : Hid (∀ wr, wr = ((w.alloc (.cells #[.bool t0, .int .i64 d0, .bool t1, .int .i64 d1, .bool t2, .int .i64 d2, .bool false, .int .i64 d3] 45)).alloc (.cells #[.bool t, .int .i64 d] 44)).alloc (.cells #[.bool false, .int .i64 0, .bool false, .int .i64 0, .bool false, .int .i64 0, .bool false, .int .i64 0] 45) → OwnRow wr w.heap.size 45 [.bool t0, .int .i64 d0, .bool t1, .int .i64 d1, .bool t2, .int .i64 d2, .bool false, .int .i64 d3] ∧ OwnRow wr (w.heap.size + 1) 44 [.bool t, .int .i64 d] ∧ OwnRow wr (w.heap.size + 2) 45 [.bool false, .int .i64 0, .bool false, .int .i64 0, .bool false, .int .i64 0, .bool false, .int .i64 0] ∧ Below w.heap.size w wr) := by
    intro wr hwr
    have h2 := own_two (w := w) (xs := [.bool t0, .int .i64 d0, .bool t1, .int .i64 d1, .bool t2, .int .i64 d2, .bool false, .int .i64 d3]) (ys := [.bool t, .int .i64 d]) (e := 45) (e' := 44) (Below.refl _ _)
    rw [hwr]
    refine ⟨h2.1.alloc _, h2.2.alloc _, ?_, (((Below.refl _ _).alloc (Nat.le_refl _) _).alloc (by simp) _).alloc (by simp; omega) _⟩
    have := heap_alloc_new ((w.alloc (.cells #[.bool t0, .int .i64 d0, .bool t1, .int .i64 d1, .bool t2, .int .i64 d2, .bool false, .int .i64 d3] 45)).alloc (.cells #[.bool t, .int .i64 d] 44)) (.cells #[.bool false, .int .i64 0, .bool false, .int .i64 0, .bool false, .int .i64 0, .bool false, .int .i64 0] 45)
    simpa [OwnRow] using this
  go_enter Try.func22, Try.ntmps22
  go_wp2_with fail
  go_loopw [10] (fun i wr => ∃ j : Nat, m ≤ j ∧ j ≤ 4 ∧ i = .int .i64 j ∧ OwnRow wr w.heap.size 45 [.bool t0, .int .i64 d0, .bool t1, .int .i64 d1, .bool t2, .int .i64 d2, .bool false, .int .i64 d3] ∧ OwnRow wr (w.heap.size + 1) 44 [.bool t, .int .i64 d] ∧ OwnRow wr (w.heap.size + 2) 45 [.bool false, .int .i64 0, .bool false, .int .i64 0, .bool false, .int .i64 0, .bool false, .int .i64 0] ∧ Below w.heap.size w wr) (fun i _ => 4 - (intOf i).toNat)
  case atStart => exact ⟨m, by omega, by omega, rfl, H2.out _ rfl⟩
  case round =>
    clear H2
    obtain ⟨j, hmj, hj, rfl, hA, hC, hB, hbel⟩ := hrel
    have hzB : w.heap.size + 2 < wr.heap.size := hB.lt
    have hzC : w.heap.size + 1 < wr.heap.size := hC.lt
    have hzA : w.heap.size < wr.heap.size := hA.lt
    have hj4 : j = 0 ∨ j = 1 ∨ j = 2 ∨ j = 3 ∨ j = 4 := by omega
    rcases hj4 with rfl | rfl | rfl | rfl | rfl
    · have f0 := hA.free
      have f1 := hB.free
      obtain ⟨⟨a0, a1, a2, a3⟩, ⟨a4, a5, a6, a7⟩⟩ := hA.eight
      obtain ⟨⟨b0, b1, b2, b3⟩, ⟨b4, b5, b6, b7⟩⟩ := hB.eight
      obtain ⟨⟨c0, c1⟩, -⟩ := hC.pair
      have HN : Hid (OwnRow wr w.heap.size 45 [.bool t0, .int .i64 d0, .bool t1, .int .i64 d1, .bool t2, .int .i64 d2, .bool false, .int .i64 d3] ∧ OwnRow wr (w.heap.size + 1) 44 [.bool t, .int .i64 d] ∧ OwnRow wr (w.heap.size + 2) 45 [.bool false, .int .i64 0, .bool false, .int .i64 0, .bool false, .int .i64 0, .bool false, .int .i64 0] ∧ Below w.heap.size w wr) := ⟨hA, hC, hB, hbel⟩
      clear hA hB hC hj
      go_wp2
      go_roundw
      case rel => exact ⟨1, by omega, by omega, rfl, HN.out⟩
      case measure => simp [intOf]
    · have f0 := hA.free
      have f1 := hB.free
      obtain ⟨⟨a0, a1, a2, a3⟩, ⟨a4, a5, a6, a7⟩⟩ := hA.eight
      obtain ⟨⟨b0, b1, b2, b3⟩, ⟨b4, b5, b6, b7⟩⟩ := hB.eight
      obtain ⟨⟨c0, c1⟩, -⟩ := hC.pair
      have HN : Hid (OwnRow wr w.heap.size 45 [.bool t0, .int .i64 d0, .bool t1, .int .i64 d1, .bool t2, .int .i64 d2, .bool false, .int .i64 d3] ∧ OwnRow wr (w.heap.size + 1) 44 [.bool t, .int .i64 d] ∧ OwnRow wr (w.heap.size + 2) 45 [.bool false, .int .i64 0, .bool false, .int .i64 0, .bool false, .int .i64 0, .bool false, .int .i64 0] ∧ Below w.heap.size w wr) := ⟨hA, hC, hB, hbel⟩
      clear hA hB hC hj
      go_wp2
      go_roundw
      case rel => exact ⟨2, by omega, by omega, rfl, HN.out⟩
      case measure => simp [intOf]
    · have f0 := hA.free
      have f1 := hB.free
      obtain ⟨⟨a0, a1, a2, a3⟩, ⟨a4, a5, a6, a7⟩⟩ := hA.eight
      obtain ⟨⟨b0, b1, b2, b3⟩, ⟨b4, b5, b6, b7⟩⟩ := hB.eight
      obtain ⟨⟨c0, c1⟩, -⟩ := hC.pair
      have HN : Hid (OwnRow wr w.heap.size 45 [.bool t0, .int .i64 d0, .bool t1, .int .i64 d1, .bool t2, .int .i64 d2, .bool false, .int .i64 d3] ∧ OwnRow wr (w.heap.size + 1) 44 [.bool t, .int .i64 d] ∧ OwnRow wr (w.heap.size + 2) 45 [.bool false, .int .i64 0, .bool false, .int .i64 0, .bool false, .int .i64 0, .bool false, .int .i64 0] ∧ Below w.heap.size w wr) := ⟨hA, hC, hB, hbel⟩
      clear hA hB hC hj
      go_wp2
      go_roundw
      case rel => exact ⟨3, by omega, by omega, rfl, HN.out⟩
      case measure => simp [intOf]
    · have f0 := hA.free
      have f1 := hB.free
      obtain ⟨⟨a0, a1, a2, a3⟩, ⟨a4, a5, a6, a7⟩⟩ := hA.eight
      obtain ⟨⟨b0, b1, b2, b3⟩, ⟨b4, b5, b6, b7⟩⟩ := hB.eight
      obtain ⟨⟨c0, c1⟩, -⟩ := hC.pair
      have HN : Hid (OwnRow wr w.heap.size 45 [.bool t0, .int .i64 d0, .bool t1, .int .i64 d1, .bool t2, .int .i64 d2, .bool false, .int .i64 d3] ∧ OwnRow wr (w.heap.size + 1) 44 [.bool t, .int .i64 d] ∧ OwnRow wr (w.heap.size + 2) 45 [.bool false, .int .i64 0, .bool false, .int .i64 0, .bool false, .int .i64 0, .bool false, .int .i64 0] ∧ Below w.heap.size w wr) := ⟨hA, hC, hB, hbel⟩
      clear hA hB hC hj
      go_wp2
      go_roundw
      case rel => exact ⟨4, by omega, by omega, rfl, HN.out⟩
      case measure => simp [intOf]
    · have f0 := hA.free
      have f1 := hB.free
      obtain ⟨⟨a0, a1, a2, a3⟩, ⟨a4, a5, a6, a7⟩⟩ := hA.eight
      obtain ⟨⟨b0, b1, b2, b3⟩, ⟨b4, b5, b6, b7⟩⟩ := hB.eight
      obtain ⟨⟨c0, c1⟩, -⟩ := hC.pair
      have HB : Hid (OwnRow wr (w.heap.size + 2) 45 [.bool false, .int .i64 0, .bool false, .int .i64 0, .bool false, .int .i64 0, .bool false, .int .i64 0] ∧ Below w.heap.size w wr) := ⟨hB, hbel⟩
      clear hA hB hC hbel
      go_wp2
      exact bodyPost_ret (v := keV no8 3) (results_cell_tmp Try.results22 _ _ _ _ _ rfl rfl (load8 (row8_set (HB.out.1) _ _ _ _ _ _ _ _))) rfl ⟨rfl, below8_set (HB.out.2) (by omega) _ _ _ _ _ _ _ _⟩

set_option maxHeartbeats 1600000 in
theorem jch_low_0 (t1 t2 t3 : Bool) (d0 d1 d2 d3 : Int) (m : Nat) (t : Bool) (d : Int) (w : World) (hm : m ≤ 0) (hd : d < 0) :
    Calls Try.prog 22 #[kv (true, d0, t1, d1, t2, d2, t3, d3), .int .i64 0, .int .i64 m, .agg #[.bool t, .int .i64 d]] w fun e w' => e = .returned (keV no8 2) ∧ Below w.heap.size w w' := by
  have H2 : Hid (∀ wr, wr = ((w.alloc (.cells #[.bool true, .int .i64 d0, .bool t1, .int .i64 d1, .bool t2, .int .i64 d2, .bool t3, .int .i64 d3] 45)).alloc (.cells #[.bool t, .int .i64 d] 44)).alloc (.cells #[.bool false, .int .i64 0, .bool false, .int .i64 0, .bool false, .int .i64 0, .bool false, .int .i64 0] 45) → OwnRow wr w.heap.size 45 [.bool true, .int .i64 d0, .bool t1, .int .i64 d1, .bool t2, .int .i64 d2, .bool t3, .int .i64 d3] ∧ OwnRow wr (w.heap.size + 1) 44 [.bool t, .int .i64 d] ∧ OwnRow wr (w.heap.size + 2) 45 [.bool false, .int .i64 0, .bool false, .int .i64 0, .bool false, .int .i64 0, .bool false, .int .i64 0] ∧ Below w.heap.size w wr) := by
    intro wr hwr
    have h2 := own_two (w := w) (xs := [.bool true, .int .i64 d0, .bool t1, .int .i64 d1, .bool t2, .int .i64 d2, .bool t3, .int .i64 d3]) (ys := [.bool t, .int .i64 d]) (e := 45) (e' := 44) (Below.refl _ _)
    rw [hwr]
    refine ⟨h2.1.alloc _, h2.2.alloc _, ?_, (((Below.refl _ _).alloc (Nat.le_refl _) _).alloc (by simp) _).alloc (by simp; omega) _⟩
    have := heap_alloc_new ((w.alloc (.cells #[.bool true, .int .i64 d0, .bool t1, .int .i64 d1, .bool t2, .int .i64 d2, .bool t3, .int .i64 d3] 45)).alloc (.cells #[.bool t, .int .i64 d] 44)) (.cells #[.bool false, .int .i64 0, .bool false, .int .i64 0, .bool false, .int .i64 0, .bool false, .int .i64 0] 45)
    simpa [OwnRow] using this
  go_enter Try.func22, Try.ntmps22
  go_wp2_with fail
  go_loopw [10] (fun i wr => ∃ j : Nat, m ≤ j ∧ j ≤ 0 ∧ i = .int .i64 j ∧ OwnRow wr w.heap.size 45 [.bool true, .int .i64 d0, .bool t1, .int .i64 d1, .bool t2, .int .i64 d2, .bool t3, .int .i64 d3] ∧ OwnRow wr (w.heap.size + 1) 44 [.bool t, .int .i64 d] ∧ OwnRow wr (w.heap.size + 2) 45 [.bool false, .int .i64 0, .bool false, .int .i64 0, .bool false, .int .i64 0, .bool false, .int .i64 0] ∧ Below w.heap.size w wr) (fun i _ => 4 - (intOf i).toNat)
  case atStart => exact ⟨m, by omega, by omega, rfl, H2.out _ rfl⟩
  case round =>
    clear H2
    obtain ⟨j, hmj, hj, rfl, hA, hC, hB, hbel⟩ := hrel
    have hzB : w.heap.size + 2 < wr.heap.size := hB.lt
    have hzC : w.heap.size + 1 < wr.heap.size := hC.lt
    have hzA : w.heap.size < wr.heap.size := hA.lt
    have hj4 : j = 0 := by omega
    rcases hj4 with rfl
    · have f0 := hA.free
      have f1 := hB.free
      obtain ⟨⟨a0, a1, a2, a3⟩, ⟨a4, a5, a6, a7⟩⟩ := hA.eight
      obtain ⟨⟨b0, b1, b2, b3⟩, ⟨b4, b5, b6, b7⟩⟩ := hB.eight
      obtain ⟨⟨c0, c1⟩, -⟩ := hC.pair
      have HB : Hid (OwnRow wr (w.heap.size + 2) 45 [.bool false, .int .i64 0, .bool false, .int .i64 0, .bool false, .int .i64 0, .bool false, .int .i64 0] ∧ Below w.heap.size w wr) := ⟨hB, hbel⟩
      clear hA hB hC hbel
      go_wp2
      exact bodyPost_ret (v := keV no8 2) (results_cell_tmp Try.results22 _ _ _ _ _ rfl rfl (load8 (row8_set (HB.out.1) _ _ _ _ _ _ _ _))) rfl ⟨rfl, below8_set (HB.out.2) (by omega) _ _ _ _ _ _ _ _⟩

set_option maxHeartbeats 1600000 in
theorem jch_high_0 (t1 t2 t3 : Bool) (d0 d1 d2 d3 : Int) (m : Nat) (t : Bool) (d : Int) (w : World) (hm : m ≤ 0) (hd : 3 < d) :
    Calls Try.prog 22 #[kv (true, d0, t1, d1, t2, d2, t3, d3), .int .i64 0, .int .i64 m, .agg #[.bool t, .int .i64 d]] w fun e w' => e = .returned (keV no8 2) ∧ Below w.heap.size w w' := by
  have H2 : Hid (∀ wr, wr = ((w.alloc (.cells #[.bool true, .int .i64 d0, .bool t1, .int .i64 d1, .bool t2, .int .i64 d2, .bool t3, .int .i64 d3] 45)).alloc (.cells #[.bool t, .int .i64 d] 44)).alloc (.cells #[.bool false, .int .i64 0, .bool false, .int .i64 0, .bool false, .int .i64 0, .bool false, .int .i64 0] 45) → OwnRow wr w.heap.size 45 [.bool true, .int .i64 d0, .bool t1, .int .i64 d1, .bool t2, .int .i64 d2, .bool t3, .int .i64 d3] ∧ OwnRow wr (w.heap.size + 1) 44 [.bool t, .int .i64 d] ∧ OwnRow wr (w.heap.size + 2) 45 [.bool false, .int .i64 0, .bool false, .int .i64 0, .bool false, .int .i64 0, .bool false, .int .i64 0] ∧ Below w.heap.size w wr) := by
    intro wr hwr
    have h2 := own_two (w := w) (xs := [.bool true, .int .i64 d0, .bool t1, .int .i64 d1, .bool t2, .int .i64 d2, .bool t3, .int .i64 d3]) (ys := [.bool t, .int .i64 d]) (e := 45) (e' := 44) (Below.refl _ _)
    rw [hwr]
    refine ⟨h2.1.alloc _, h2.2.alloc _, ?_, (((Below.refl _ _).alloc (Nat.le_refl _) _).alloc (by simp) _).alloc (by simp; omega) _⟩
    have := heap_alloc_new ((w.alloc (.cells #[.bool true, .int .i64 d0, .bool t1, .int .i64 d1, .bool t2, .int .i64 d2, .bool t3, .int .i64 d3] 45)).alloc (.cells #[.bool t, .int .i64 d] 44)) (.cells #[.bool false, .int .i64 0, .bool false, .int .i64 0, .bool false, .int .i64 0, .bool false, .int .i64 0] 45)
    simpa [OwnRow] using this
  go_enter Try.func22, Try.ntmps22
  go_wp2_with fail
  go_loopw [10] (fun i wr => ∃ j : Nat, m ≤ j ∧ j ≤ 0 ∧ i = .int .i64 j ∧ OwnRow wr w.heap.size 45 [.bool true, .int .i64 d0, .bool t1, .int .i64 d1, .bool t2, .int .i64 d2, .bool t3, .int .i64 d3] ∧ OwnRow wr (w.heap.size + 1) 44 [.bool t, .int .i64 d] ∧ OwnRow wr (w.heap.size + 2) 45 [.bool false, .int .i64 0, .bool false, .int .i64 0, .bool false, .int .i64 0, .bool false, .int .i64 0] ∧ Below w.heap.size w wr) (fun i _ => 4 - (intOf i).toNat)
  case atStart => exact ⟨m, by omega, by omega, rfl, H2.out _ rfl⟩
  case round =>
    clear H2
    obtain ⟨j, hmj, hj, rfl, hA, hC, hB, hbel⟩ := hrel
    have hzB : w.heap.size + 2 < wr.heap.size := hB.lt
    have hzC : w.heap.size + 1 < wr.heap.size := hC.lt
    have hzA : w.heap.size < wr.heap.size := hA.lt
    have hj4 : j = 0 := by omega
    rcases hj4 with rfl
    · have f0 := hA.free
      have f1 := hB.free
      obtain ⟨⟨a0, a1, a2, a3⟩, ⟨a4, a5, a6, a7⟩⟩ := hA.eight
      obtain ⟨⟨b0, b1, b2, b3⟩, ⟨b4, b5, b6, b7⟩⟩ := hB.eight
      obtain ⟨⟨c0, c1⟩, -⟩ := hC.pair
      have HB : Hid (OwnRow wr (w.heap.size + 2) 45 [.bool false, .int .i64 0, .bool false, .int .i64 0, .bool false, .int .i64 0, .bool false, .int .i64 0] ∧ Below w.heap.size w wr) := ⟨hB, hbel⟩
      clear hA hB hC hbel
      go_wp2
      exact bodyPost_ret (v := keV no8 2) (results_cell_tmp Try.results22 _ _ _ _ _ rfl rfl (load8 (row8_set (HB.out.1) _ _ _ _ _ _ _ _))) rfl ⟨rfl, below8_set (HB.out.2) (by omega) _ _ _ _ _ _ _ _⟩

set_option maxHeartbeats 1600000 in
theorem jch_ok_0 (t1 t2 t3 : Bool) (d0 d1 d2 d3 : Int) (m : Nat) (t : Bool) (d : Int) (w : World) (hm : m ≤ 0) (hd0 : 0 ≤ d) (hd3 : d ≤ 3) :
    Calls Try.prog 22 #[kv (true, d0, t1, d1, t2, d2, t3, d3), .int .i64 0, .int .i64 m, .agg #[.bool t, .int .i64 d]] w fun e w' => e = .returned (keV (t, d, t1, d1, t2, d2, t3, d3) 0) ∧ Below w.heap.size w w' := by
  have H2 : Hid (∀ wr, wr = ((w.alloc (.cells #[.bool true, .int .i64 d0, .bool t1, .int .i64 d1, .bool t2, .int .i64 d2, .bool t3, .int .i64 d3] 45)).alloc (.cells #[.bool t, .int .i64 d] 44)).alloc (.cells #[.bool false, .int .i64 0, .bool false, .int .i64 0, .bool false, .int .i64 0, .bool false, .int .i64 0] 45) → OwnRow wr w.heap.size 45 [.bool true, .int .i64 d0, .bool t1, .int .i64 d1, .bool t2, .int .i64 d2, .bool t3, .int .i64 d3] ∧ OwnRow wr (w.heap.size + 1) 44 [.bool t, .int .i64 d] ∧ OwnRow wr (w.heap.size + 2) 45 [.bool false, .int .i64 0, .bool false, .int .i64 0, .bool false, .int .i64 0, .bool false, .int .i64 0] ∧ Below w.heap.size w wr) := by
    intro wr hwr
    have h2 := own_two (w := w) (xs := [.bool true, .int .i64 d0, .bool t1, .int .i64 d1, .bool t2, .int .i64 d2, .bool t3, .int .i64 d3]) (ys := [.bool t, .int .i64 d]) (e := 45) (e' := 44) (Below.refl _ _)
    rw [hwr]
    refine ⟨h2.1.alloc _, h2.2.alloc _, ?_, (((Below.refl _ _).alloc (Nat.le_refl _) _).alloc (by simp) _).alloc (by simp; omega) _⟩
    have := heap_alloc_new ((w.alloc (.cells #[.bool true, .int .i64 d0, .bool t1, .int .i64 d1, .bool t2, .int .i64 d2, .bool t3, .int .i64 d3] 45)).alloc (.cells #[.bool t, .int .i64 d] 44)) (.cells #[.bool false, .int .i64 0, .bool false, .int .i64 0, .bool false, .int .i64 0, .bool false, .int .i64 0] 45)
    simpa [OwnRow] using this
  go_enter Try.func22, Try.ntmps22
  go_wp2_with fail
  go_loopw [10] (fun i wr => ∃ j : Nat, m ≤ j ∧ j ≤ 0 ∧ i = .int .i64 j ∧ OwnRow wr w.heap.size 45 [.bool true, .int .i64 d0, .bool t1, .int .i64 d1, .bool t2, .int .i64 d2, .bool t3, .int .i64 d3] ∧ OwnRow wr (w.heap.size + 1) 44 [.bool t, .int .i64 d] ∧ OwnRow wr (w.heap.size + 2) 45 [.bool false, .int .i64 0, .bool false, .int .i64 0, .bool false, .int .i64 0, .bool false, .int .i64 0] ∧ Below w.heap.size w wr) (fun i _ => 4 - (intOf i).toNat)
  case atStart => exact ⟨m, by omega, by omega, rfl, H2.out _ rfl⟩
  case round =>
    clear H2
    obtain ⟨j, hmj, hj, rfl, hA, hC, hB, hbel⟩ := hrel
    have hzB : w.heap.size + 2 < wr.heap.size := hB.lt
    have hzC : w.heap.size + 1 < wr.heap.size := hC.lt
    have hzA : w.heap.size < wr.heap.size := hA.lt
    have hj4 : j = 0 := by omega
    rcases hj4 with rfl
    · have f0 := hA.free
      have f1 := hB.free
      obtain ⟨⟨a0, a1, a2, a3⟩, ⟨a4, a5, a6, a7⟩⟩ := hA.eight
      obtain ⟨⟨b0, b1, b2, b3⟩, ⟨b4, b5, b6, b7⟩⟩ := hB.eight
      obtain ⟨⟨c0, c1⟩, -⟩ := hC.pair
      have HB : Hid (OwnRow wr (w.heap.size + 2) 45 [.bool false, .int .i64 0, .bool false, .int .i64 0, .bool false, .int .i64 0, .bool false, .int .i64 0] ∧ Below w.heap.size w wr) := ⟨hB, hbel⟩
      clear hA hB hC hbel
      go_wp2
      exact bodyPost_ret (v := keV (t, d, t1, d1, t2, d2, t3, d3) 0) (results_cell_tmp Try.results22 _ _ _ _ _ rfl rfl (load8 (row8_set (OwnRow.beside (OwnRow.beside HB.out.1 (by omega) _) (by omega) _) _ _ _ _ _ _ _ _))) rfl ⟨rfl, below8_set ((HB.out.2.setCell (by simp) _).setCell (by simp) _) (by omega) _ _ _ _ _ _ _ _⟩

set_option maxHeartbeats 1600000 in
theorem jch_low_1 (t0 t2 t3 : Bool) (d0 d1 d2 d3 : Int) (m : Nat) (t : Bool) (d : Int) (w : World) (hm : m ≤ 1) (hd : d < 0) :
    Calls Try.prog 22 #[kv (t0, d0, true, d1, t2, d2, t3, d3), .int .i64 1, .int .i64 m, .agg #[.bool t, .int .i64 d]] w fun e w' => e = .returned (keV no8 2) ∧ Below w.heap.size w w' := by
  have H2 : Hid (∀ wr, wr = ((w.alloc (.cells #[.bool t0, .int .i64 d0, .bool true, .int .i64 d1, .bool t2, .int .i64 d2, .bool t3, .int .i64 d3] 45)).alloc (.cells #[.bool t, .int .i64 d] 44)).alloc (.cells #[.bool false, .int .i64 0, .bool false, .int .i64 0, .bool false, .int .i64 0, .bool false, .int .i64 0] 45) → OwnRow wr w.heap.size 45 [.bool t0, .int .i64 d0, .bool true, .int .i64 d1, .bool t2, .int .i64 d2, .bool t3, .int .i64 d3] ∧ OwnRow wr (w.heap.size + 1) 44 [.bool t, .int .i64 d] ∧ OwnRow wr (w.heap.size + 2) 45 [.bool false, .int .i64 0, .bool false, .int .i64 0, .bool false, .int .i64 0, .bool false, .int .i64 0] ∧ Below w.heap.size w wr) := by
    intro wr hwr
    have h2 := own_two (w := w) (xs := [.bool t0, .int .i64 d0, .bool true, .int .i64 d1, .bool t2, .int .i64 d2, .bool t3, .int .i64 d3]) (ys := [.bool t, .int .i64 d]) (e := 45) (e' := 44) (Below.refl _ _)
    rw [hwr]
    refine ⟨h2.1.alloc _, h2.2.alloc _, ?_, (((Below.refl _ _).alloc (Nat.le_refl _) _).alloc (by simp) _).alloc (by simp; omega) _⟩
    have := heap_alloc_new ((w.alloc (.cells #[.bool t0, .int .i64 d0, .bool true, .int .i64 d1, .bool t2, .int .i64 d2, .bool t3, .int .i64 d3] 45)).alloc (.cells #[.bool t, .int .i64 d] 44)) (.cells #[.bool false, .int .i64 0, .bool false, .int .i64 0, .bool false, .int .i64 0, .bool false, .int .i64 0] 45)
    simpa [OwnRow] using this
  go_enter Try.func22, Try.ntmps22
  go_wp2_with fail
  go_loopw [10] (fun i wr => ∃ j : Nat, m ≤ j ∧ j ≤ 1 ∧ i = .int .i64 j ∧ OwnRow wr w.heap.size 45 [.bool t0, .int .i64 d0, .bool true, .int .i64 d1, .bool t2, .int .i64 d2, .bool t3, .int .i64 d3] ∧ OwnRow wr (w.heap.size + 1) 44 [.bool t, .int .i64 d] ∧ OwnRow wr (w.heap.size + 2) 45 [.bool false, .int .i64 0, .bool false, .int .i64 0, .bool false, .int .i64 0, .bool false, .int .i64 0] ∧ Below w.heap.size w wr) (fun i _ => 4 - (intOf i).toNat)
  case atStart => exact ⟨m, by omega, by omega, rfl, H2.out _ rfl⟩
  case round =>
    clear H2
    obtain ⟨j, hmj, hj, rfl, hA, hC, hB, hbel⟩ := hrel
    have hzB : w.heap.size + 2 < wr.heap.size := hB.lt
    have hzC : w.heap.size + 1 < wr.heap.size := hC.lt
    have hzA : w.heap.size < wr.heap.size := hA.lt
    have hj4 : j = 0 ∨ j = 1 := by omega
    rcases hj4 with rfl | rfl
    · have f0 := hA.free
      have f1 := hB.free
      obtain ⟨⟨a0, a1, a2, a3⟩, ⟨a4, a5, a6, a7⟩⟩ := hA.eight
      obtain ⟨⟨b0, b1, b2, b3⟩, ⟨b4, b5, b6, b7⟩⟩ := hB.eight
      obtain ⟨⟨c0, c1⟩, -⟩ := hC.pair
      have HN : Hid (OwnRow wr w.heap.size 45 [.bool t0, .int .i64 d0, .bool true, .int .i64 d1, .bool t2, .int .i64 d2, .bool t3, .int .i64 d3] ∧ OwnRow wr (w.heap.size + 1) 44 [.bool t, .int .i64 d] ∧ OwnRow wr (w.heap.size + 2) 45 [.bool false, .int .i64 0, .bool false, .int .i64 0, .bool false, .int .i64 0, .bool false, .int .i64 0] ∧ Below w.heap.size w wr) := ⟨hA, hC, hB, hbel⟩
      clear hA hB hC hj
      go_wp2
      go_roundw
      case rel => exact ⟨1, by omega, by omega, rfl, HN.out⟩
      case measure => simp [intOf]
    · have f0 := hA.free
      have f1 := hB.free
      obtain ⟨⟨a0, a1, a2, a3⟩, ⟨a4, a5, a6, a7⟩⟩ := hA.eight
      obtain ⟨⟨b0, b1, b2, b3⟩, ⟨b4, b5, b6, b7⟩⟩ := hB.eight
      obtain ⟨⟨c0, c1⟩, -⟩ := hC.pair
      have HB : Hid (OwnRow wr (w.heap.size + 2) 45 [.bool false, .int .i64 0, .bool false, .int .i64 0, .bool false, .int .i64 0, .bool false, .int .i64 0] ∧ Below w.heap.size w wr) := ⟨hB, hbel⟩
      clear hA hB hC hbel
      go_wp2
      exact bodyPost_ret (v := keV no8 2) (results_cell_tmp Try.results22 _ _ _ _ _ rfl rfl (load8 (row8_set (HB.out.1) _ _ _ _ _ _ _ _))) rfl ⟨rfl, below8_set (HB.out.2) (by omega) _ _ _ _ _ _ _ _⟩

set_option maxHeartbeats 1600000 in
theorem jch_high_1 (t0 t2 t3 : Bool) (d0 d1 d2 d3 : Int) (m : Nat) (t : Bool) (d : Int) (w : World) (hm : m ≤ 1) (hd : 3 < d) :
    Calls Try.prog 22 #[kv (t0, d0, true, d1, t2, d2, t3, d3), .int .i64 1, .int .i64 m, .agg #[.bool t, .int .i64 d]] w fun e w' => e = .returned (keV no8 2) ∧ Below w.heap.size w w' := by
  have H2 : Hid (∀ wr, wr = ((w.alloc (.cells #[.bool t0, .int .i64 d0, .bool true, .int .i64 d1, .bool t2, .int .i64 d2, .bool t3, .int .i64 d3] 45)).alloc (.cells #[.bool t, .int .i64 d] 44)).alloc (.cells #[.bool false, .int .i64 0, .bool false, .int .i64 0, .bool false, .int .i64 0, .bool false, .int .i64 0] 45) → OwnRow wr w.heap.size 45 [.bool t0, .int .i64 d0, .bool true, .int .i64 d1, .bool t2, .int .i64 d2, .bool t3, .int .i64 d3] ∧ OwnRow wr (w.heap.size + 1) 44 [.bool t, .int .i64 d] ∧ OwnRow wr (w.heap.size + 2) 45 [.bool false, .int .i64 0, .bool false, .int .i64 0, .bool false, .int .i64 0, .bool false, .int .i64 0] ∧ Below w.heap.size w wr) := by
    intro wr hwr
    have h2 := own_two (w := w) (xs := [.bool t0, .int .i64 d0, .bool true, .int .i64 d1, .bool t2, .int .i64 d2, .bool t3, .int .i64 d3]) (ys := [.bool t, .int .i64 d]) (e := 45) (e' := 44) (Below.refl _ _)
    rw [hwr]
    refine ⟨h2.1.alloc _, h2.2.alloc _, ?_, (((Below.refl _ _).alloc (Nat.le_refl _) _).alloc (by simp) _).alloc (by simp; omega) _⟩
    have := heap_alloc_new ((w.alloc (.cells #[.bool t0, .int .i64 d0, .bool true, .int .i64 d1, .bool t2, .int .i64 d2, .bool t3, .int .i64 d3] 45)).alloc (.cells #[.bool t, .int .i64 d] 44)) (.cells #[.bool false, .int .i64 0, .bool false, .int .i64 0, .bool false, .int .i64 0, .bool false, .int .i64 0] 45)
    simpa [OwnRow] using this
  go_enter Try.func22, Try.ntmps22
  go_wp2_with fail
  go_loopw [10] (fun i wr => ∃ j : Nat, m ≤ j ∧ j ≤ 1 ∧ i = .int .i64 j ∧ OwnRow wr w.heap.size 45 [.bool t0, .int .i64 d0, .bool true, .int .i64 d1, .bool t2, .int .i64 d2, .bool t3, .int .i64 d3] ∧ OwnRow wr (w.heap.size + 1) 44 [.bool t, .int .i64 d] ∧ OwnRow wr (w.heap.size + 2) 45 [.bool false, .int .i64 0, .bool false, .int .i64 0, .bool false, .int .i64 0, .bool false, .int .i64 0] ∧ Below w.heap.size w wr) (fun i _ => 4 - (intOf i).toNat)
  case atStart => exact ⟨m, by omega, by omega, rfl, H2.out _ rfl⟩
  case round =>
    clear H2
    obtain ⟨j, hmj, hj, rfl, hA, hC, hB, hbel⟩ := hrel
    have hzB : w.heap.size + 2 < wr.heap.size := hB.lt
    have hzC : w.heap.size + 1 < wr.heap.size := hC.lt
    have hzA : w.heap.size < wr.heap.size := hA.lt
    have hj4 : j = 0 ∨ j = 1 := by omega
    rcases hj4 with rfl | rfl
    · have f0 := hA.free
      have f1 := hB.free
      obtain ⟨⟨a0, a1, a2, a3⟩, ⟨a4, a5, a6, a7⟩⟩ := hA.eight
      obtain ⟨⟨b0, b1, b2, b3⟩, ⟨b4, b5, b6, b7⟩⟩ := hB.eight
      obtain ⟨⟨c0, c1⟩, -⟩ := hC.pair
      have HN : Hid (OwnRow wr w.heap.size 45 [.bool t0, .int .i64 d0, .bool true, .int .i64 d1, .bool t2, .int .i64 d2, .bool t3, .int .i64 d3] ∧ OwnRow wr (w.heap.size + 1) 44 [.bool t, .int .i64 d] ∧ OwnRow wr (w.heap.size + 2) 45 [.bool false, .int .i64 0, .bool false, .int .i64 0, .bool false, .int .i64 0, .bool false, .int .i64 0] ∧ Below w.heap.size w wr) := ⟨hA, hC, hB, hbel⟩
      clear hA hB hC hj
      go_wp2
      go_roundw
      case rel => exact ⟨1, by omega, by omega, rfl, HN.out⟩
      case measure => simp [intOf]
    · have f0 := hA.free
      have f1 := hB.free
      obtain ⟨⟨a0, a1, a2, a3⟩, ⟨a4, a5, a6, a7⟩⟩ := hA.eight
      obtain ⟨⟨b0, b1, b2, b3⟩, ⟨b4, b5, b6, b7⟩⟩ := hB.eight
      obtain ⟨⟨c0, c1⟩, -⟩ := hC.pair
      have HB : Hid (OwnRow wr (w.heap.size + 2) 45 [.bool false, .int .i64 0, .bool false, .int .i64 0, .bool false, .int .i64 0, .bool false, .int .i64 0] ∧ Below w.heap.size w wr) := ⟨hB, hbel⟩
      clear hA hB hC hbel
      go_wp2
      exact bodyPost_ret (v := keV no8 2) (results_cell_tmp Try.results22 _ _ _ _ _ rfl rfl (load8 (row8_set (HB.out.1) _ _ _ _ _ _ _ _))) rfl ⟨rfl, below8_set (HB.out.2) (by omega) _ _ _ _ _ _ _ _⟩

set_option maxHeartbeats 1600000 in
theorem jch_ok_1 (t0 t2 t3 : Bool) (d0 d1 d2 d3 : Int) (m : Nat) (t : Bool) (d : Int) (w : World) (hm : m ≤ 1) (hd0 : 0 ≤ d) (hd3 : d ≤ 3) :
    Calls Try.prog 22 #[kv (t0, d0, true, d1, t2, d2, t3, d3), .int .i64 1, .int .i64 m, .agg #[.bool t, .int .i64 d]] w fun e w' => e = .returned (keV (t0, d0, t, d, t2, d2, t3, d3) 0) ∧ Below w.heap.size w w' := by
  have H2 : Hid (∀ wr, wr = ((w.alloc (.cells #[.bool t0, .int .i64 d0, .bool true, .int .i64 d1, .bool t2, .int .i64 d2, .bool t3, .int .i64 d3] 45)).alloc (.cells #[.bool t, .int .i64 d] 44)).alloc (.cells #[.bool false, .int .i64 0, .bool false, .int .i64 0, .bool false, .int .i64 0, .bool false, .int .i64 0] 45) → OwnRow wr w.heap.size 45 [.bool t0, .int .i64 d0, .bool true, .int .i64 d1, .bool t2, .int .i64 d2, .bool t3, .int .i64 d3] ∧ OwnRow wr (w.heap.size + 1) 44 [.bool t, .int .i64 d] ∧ OwnRow wr (w.heap.size + 2) 45 [.bool false, .int .i64 0, .bool false, .int .i64 0, .bool false, .int .i64 0, .bool false, .int .i64 0] ∧ Below w.heap.size w wr) := by
    intro wr hwr
    have h2 := own_two (w := w) (xs := [.bool t0, .int .i64 d0, .bool true, .int .i64 d1, .bool t2, .int .i64 d2, .bool t3, .int .i64 d3]) (ys := [.bool t, .int .i64 d]) (e := 45) (e' := 44) (Below.refl _ _)
    rw [hwr]
    refine ⟨h2.1.alloc _, h2.2.alloc _, ?_, (((Below.refl _ _).alloc (Nat.le_refl _) _).alloc (by simp) _).alloc (by simp; omega) _⟩
    have := heap_alloc_new ((w.alloc (.cells #[.bool t0, .int .i64 d0, .bool true, .int .i64 d1, .bool t2, .int .i64 d2, .bool t3, .int .i64 d3] 45)).alloc (.cells #[.bool t, .int .i64 d] 44)) (.cells #[.bool false, .int .i64 0, .bool false, .int .i64 0, .bool false, .int .i64 0, .bool false, .int .i64 0] 45)
    simpa [OwnRow] using this
  go_enter Try.func22, Try.ntmps22
  go_wp2_with fail
  go_loopw [10] (fun i wr => ∃ j : Nat, m ≤ j ∧ j ≤ 1 ∧ i = .int .i64 j ∧ OwnRow wr w.heap.size 45 [.bool t0, .int .i64 d0, .bool true, .int .i64 d1, .bool t2, .int .i64 d2, .bool t3, .int .i64 d3] ∧ OwnRow wr (w.heap.size + 1) 44 [.bool t, .int .i64 d] ∧ OwnRow wr (w.heap.size + 2) 45 [.bool false, .int .i64 0, .bool false, .int .i64 0, .bool false, .int .i64 0, .bool false, .int .i64 0] ∧ Below w.heap.size w wr) (fun i _ => 4 - (intOf i).toNat)
  case atStart => exact ⟨m, by omega, by omega, rfl, H2.out _ rfl⟩
  case round =>
    clear H2
    obtain ⟨j, hmj, hj, rfl, hA, hC, hB, hbel⟩ := hrel
    have hzB : w.heap.size + 2 < wr.heap.size := hB.lt
    have hzC : w.heap.size + 1 < wr.heap.size := hC.lt
    have hzA : w.heap.size < wr.heap.size := hA.lt
    have hj4 : j = 0 ∨ j = 1 := by omega
    rcases hj4 with rfl | rfl
    · have f0 := hA.free
      have f1 := hB.free
      obtain ⟨⟨a0, a1, a2, a3⟩, ⟨a4, a5, a6, a7⟩⟩ := hA.eight
      obtain ⟨⟨b0, b1, b2, b3⟩, ⟨b4, b5, b6, b7⟩⟩ := hB.eight
      obtain ⟨⟨c0, c1⟩, -⟩ := hC.pair
      have HN : Hid (OwnRow wr w.heap.size 45 [.bool t0, .int .i64 d0, .bool true, .int .i64 d1, .bool t2, .int .i64 d2, .bool t3, .int .i64 d3] ∧ OwnRow wr (w.heap.size + 1) 44 [.bool t, .int .i64 d] ∧ OwnRow wr (w.heap.size + 2) 45 [.bool false, .int .i64 0, .bool false, .int .i64 0, .bool false, .int .i64 0, .bool false, .int .i64 0] ∧ Below w.heap.size w wr) := ⟨hA, hC, hB, hbel⟩
      clear hA hB hC hj
      go_wp2
      go_roundw
      case rel => exact ⟨1, by omega, by omega, rfl, HN.out⟩
      case measure => simp [intOf]
    · have f0 := hA.free
      have f1 := hB.free
      obtain ⟨⟨a0, a1, a2, a3⟩, ⟨a4, a5, a6, a7⟩⟩ := hA.eight
      obtain ⟨⟨b0, b1, b2, b3⟩, ⟨b4, b5, b6, b7⟩⟩ := hB.eight
      obtain ⟨⟨c0, c1⟩, -⟩ := hC.pair
      have HB : Hid (OwnRow wr (w.heap.size + 2) 45 [.bool false, .int .i64 0, .bool false, .int .i64 0, .bool false, .int .i64 0, .bool false, .int .i64 0] ∧ Below w.heap.size w wr) := ⟨hB, hbel⟩
      clear hA hB hC hbel
      go_wp2
      exact bodyPost_ret (v := keV (t0, d0, t, d, t2, d2, t3, d3) 0) (results_cell_tmp Try.results22 _ _ _ _ _ rfl rfl (load8 (row8_set (OwnRow.beside (OwnRow.beside HB.out.1 (by omega) _) (by omega) _) _ _ _ _ _ _ _ _))) rfl ⟨rfl, below8_set ((HB.out.2.setCell (by simp) _).setCell (by simp) _) (by omega) _ _ _ _ _ _ _ _⟩

set_option maxHeartbeats 1600000 in
theorem jch_low_2 (t0 t1 t3 : Bool) (d0 d1 d2 d3 : Int) (m : Nat) (t : Bool) (d : Int) (w : World) (hm : m ≤ 2) (hd : d < 0) :
    Calls Try.prog 22 #[kv (t0, d0, t1, d1, true, d2, t3, d3), .int .i64 2, .int .i64 m, .agg #[.bool t, .int .i64 d]] w fun e w' => e = .returned (keV no8 2) ∧ Below w.heap.size w w' := by
  have H2 : Hid (∀ wr, wr = ((w.alloc (.cells #[.bool t0, .int .i64 d0, .bool t1, .int .i64 d1, .bool true, .int .i64 d2, .bool t3, .int .i64 d3] 45)).alloc (.cells #[.bool t, .int .i64 d] 44)).alloc (.cells #[.bool false, .int .i64 0, .bool false, .int .i64 0, .bool false, .int .i64 0, .bool false, .int .i64 0] 45) → OwnRow wr w.heap.size 45 [.bool t0, .int .i64 d0, .bool t1, .int .i64 d1, .bool true, .int .i64 d2, .bool t3, .int .i64 d3] ∧ OwnRow wr (w.heap.size + 1) 44 [.bool t, .int .i64 d] ∧ OwnRow wr (w.heap.size + 2) 45 [.bool false, .int .i64 0, .bool false, .int .i64 0, .bool false, .int .i64 0, .bool false, .int .i64 0] ∧ Below w.heap.size w wr) := by
    intro wr hwr
    have h2 := own_two (w := w) (xs := [.bool t0, .int .i64 d0, .bool t1, .int .i64 d1, .bool true, .int .i64 d2, .bool t3, .int .i64 d3]) (ys := [.bool t, .int .i64 d]) (e := 45) (e' := 44) (Below.refl _ _)
    rw [hwr]
    refine ⟨h2.1.alloc _, h2.2.alloc _, ?_, (((Below.refl _ _).alloc (Nat.le_refl _) _).alloc (by simp) _).alloc (by simp; omega) _⟩
    have := heap_alloc_new ((w.alloc (.cells #[.bool t0, .int .i64 d0, .bool t1, .int .i64 d1, .bool true, .int .i64 d2, .bool t3, .int .i64 d3] 45)).alloc (.cells #[.bool t, .int .i64 d] 44)) (.cells #[.bool false, .int .i64 0, .bool false, .int .i64 0, .bool false, .int .i64 0, .bool false, .int .i64 0] 45)
    simpa [OwnRow] using this
  go_enter Try.func22, Try.ntmps22
  go_wp2_with fail
  go_loopw [10] (fun i wr => ∃ j : Nat, m ≤ j ∧ j ≤ 2 ∧ i = .int .i64 j ∧ OwnRow wr w.heap.size 45 [.bool t0, .int .i64 d0, .bool t1, .int .i64 d1, .bool true, .int .i64 d2, .bool t3, .int .i64 d3] ∧ OwnRow wr (w.heap.size + 1) 44 [.bool t, .int .i64 d] ∧ OwnRow wr (w.heap.size + 2) 45 [.bool false, .int .i64 0, .bool false, .int .i64 0, .bool false, .int .i64 0, .bool false, .int .i64 0] ∧ Below w.heap.size w wr) (fun i _ => 4 - (intOf i).toNat)
  case atStart => exact ⟨m, by omega, by omega, rfl, H2.out _ rfl⟩
  case round =>
    clear H2
    obtain ⟨j, hmj, hj, rfl, hA, hC, hB, hbel⟩ := hrel
    have hzB : w.heap.size + 2 < wr.heap.size := hB.lt
    have hzC : w.heap.size + 1 < wr.heap.size := hC.lt
    have hzA : w.heap.size < wr.heap.size := hA.lt
    have hj4 : j = 0 ∨ j = 1 ∨ j = 2 := by omega
    rcases hj4 with rfl | rfl | rfl
    · have f0 := hA.free
      have f1 := hB.free
      obtain ⟨⟨a0, a1, a2, a3⟩, ⟨a4, a5, a6, a7⟩⟩ := hA.eight
      obtain ⟨⟨b0, b1, b2, b3⟩, ⟨b4, b5, b6, b7⟩⟩ := hB.eight
      obtain ⟨⟨c0, c1⟩, -⟩ := hC.pair
      have HN : Hid (OwnRow wr w.heap.size 45 [.bool t0, .int .i64 d0, .bool t1, .int .i64 d1, .bool true, .int .i64 d2, .bool t3, .int .i64 d3] ∧ OwnRow wr (w.heap.size + 1) 44 [.bool t, .int .i64 d] ∧ OwnRow wr (w.heap.size + 2) 45 [.bool false, .int .i64 0, .bool false, .int .i64 0, .bool false, .int .i64 0, .bool false, .int .i64 0] ∧ Below w.heap.size w wr) := ⟨hA, hC, hB, hbel⟩
      clear hA hB hC hj
      go_wp2
      go_roundw
      case rel => exact ⟨1, by omega, by omega, rfl, HN.out⟩
      case measure => simp [intOf]
    · have f0 := hA.free
      have f1 := hB.free
      obtain ⟨⟨a0, a1, a2, a3⟩, ⟨a4, a5, a6, a7⟩⟩ := hA.eight
      obtain ⟨⟨b0, b1, b2, b3⟩, ⟨b4, b5, b6, b7⟩⟩ := hB.eight
      obtain ⟨⟨c0, c1⟩, -⟩ := hC.pair
      have HN : Hid (OwnRow wr w.heap.size 45 [.bool t0, .int .i64 d0, .bool t1, .int .i64 d1, .bool true, .int .i64 d2, .bool t3, .int .i64 d3] ∧ OwnRow wr (w.heap.size + 1) 44 [.bool t, .int .i64 d] ∧ OwnRow wr (w.heap.size + 2) 45 [.bool false, .int .i64 0, .bool false, .int .i64 0, .bool false, .int .i64 0, .bool false, .int .i64 0] ∧ Below w.heap.size w wr) := ⟨hA, hC, hB, hbel⟩
      clear hA hB hC hj
      go_wp2
      go_roundw
      case rel => exact ⟨2, by omega, by omega, rfl, HN.out⟩
      case measure => simp [intOf]
    · have f0 := hA.free
      have f1 := hB.free
      obtain ⟨⟨a0, a1, a2, a3⟩, ⟨a4, a5, a6, a7⟩⟩ := hA.eight
      obtain ⟨⟨b0, b1, b2, b3⟩, ⟨b4, b5, b6, b7⟩⟩ := hB.eight
      obtain ⟨⟨c0, c1⟩, -⟩ := hC.pair
      have HB : Hid (OwnRow wr (w.heap.size + 2) 45 [.bool false, .int .i64 0, .bool false, .int .i64 0, .bool false, .int .i64 0, .bool false, .int .i64 0] ∧ Below w.heap.size w wr) := ⟨hB, hbel⟩
      clear hA hB hC hbel
      go_wp2
      exact bodyPost_ret (v := keV no8 2) (results_cell_tmp Try.results22 _ _ _ _ _ rfl rfl (load8 (row8_set (HB.out.1) _ _ _ _ _ _ _ _))) rfl ⟨rfl, below8_set (HB.out.2) (by omega) _ _ _ _ _ _ _ _⟩

set_option maxHeartbeats 1600000 in
theorem jch_high_2 (t0 t1 t3 : Bool) (d0 d1 d2 d3 : Int) (m : Nat) (t : Bool) (d : Int) (w : World) (hm : m ≤ 2) (hd : 3 < d) :
    Calls Try.prog 22 #[kv (t0, d0, t1, d1, true, d2, t3, d3), .int .i64 2, .int .i64 m, .agg #[.bool t, .int .i64 d]] w fun e w' => e = .returned (keV no8 2) ∧ Below w.heap.size w w' := by
  have H2 : Hid (∀ wr, wr = ((w.alloc (.cells #[.bool t0, .int .i64 d0, .bool t1, .int .i64 d1, .bool true, .int .i64 d2, .bool t3, .int .i64 d3] 45)).alloc (.cells #[.bool t, .int .i64 d] 44)).alloc (.cells #[.bool false, .int .i64 0, .bool false, .int .i64 0, .bool false, .int .i64 0, .bool false, .int .i64 0] 45) → OwnRow wr w.heap.size 45 [.bool t0, .int .i64 d0, .bool t1, .int .i64 d1, .bool true, .int .i64 d2, .bool t3, .int .i64 d3] ∧ OwnRow wr (w.heap.size + 1) 44 [.bool t, .int .i64 d] ∧ OwnRow wr (w.heap.size + 2) 45 [.bool false, .int .i64 0, .bool false, .int .i64 0, .bool false, .int .i64 0, .bool false, .int .i64 0] ∧ Below w.heap.size w wr) := by
    intro wr hwr
    have h2 := own_two (w := w) (xs := [.bool t0, .int .i64 d0, .bool t1, .int .i64 d1, .bool true, .int .i64 d2, .bool t3, .int .i64 d3]) (ys := [.bool t, .int .i64 d]) (e := 45) (e' := 44) (Below.refl _ _)
    rw [hwr]
    refine ⟨h2.1.alloc _, h2.2.alloc _, ?_, (((Below.refl _ _).alloc (Nat.le_refl _) _).alloc (by simp) _).alloc (by simp; omega) _⟩
    have := heap_alloc_new ((w.alloc (.cells #[.bool t0, .int .i64 d0, .bool t1, .int .i64 d1, .bool true, .int .i64 d2, .bool t3, .int .i64 d3] 45)).alloc (.cells #[.bool t, .int .i64 d] 44)) (.cells #[.bool false, .int .i64 0, .bool false, .int .i64 0, .bool false, .int .i64 0, .bool false, .int .i64 0] 45)
    simpa [OwnRow] using this
  go_enter Try.func22, Try.ntmps22
  go_wp2_with fail
  go_loopw [10] (fun i wr => ∃ j : Nat, m ≤ j ∧ j ≤ 2 ∧ i = .int .i64 j ∧ OwnRow wr w.heap.size 45 [.bool t0, .int .i64 d0, .bool t1, .int .i64 d1, .bool true, .int .i64 d2, .bool t3, .int .i64 d3] ∧ OwnRow wr (w.heap.size + 1) 44 [.bool t, .int .i64 d] ∧ OwnRow wr (w.heap.size + 2) 45 [.bool false, .int .i64 0, .bool false, .int .i64 0, .bool false, .int .i64 0, .bool false, .int .i64 0] ∧ Below w.heap.size w wr) (fun i _ => 4 - (intOf i).toNat)
  case atStart => exact ⟨m, by omega, by omega, rfl, H2.out _ rfl⟩
  case round =>
    clear H2
    obtain ⟨j, hmj, hj, rfl, hA, hC, hB, hbel⟩ := hrel
    have hzB : w.heap.size + 2 < wr.heap.size := hB.lt
    have hzC : w.heap.size + 1 < wr.heap.size := hC.lt
    have hzA : w.heap.size < wr.heap.size := hA.lt
    have hj4 : j = 0 ∨ j = 1 ∨ j = 2 := by omega
    rcases hj4 with rfl | rfl | rfl
    · have f0 := hA.free
      have f1 := hB.free
      obtain ⟨⟨a0, a1, a2, a3⟩, ⟨a4, a5, a6, a7⟩⟩ := hA.eight
      obtain ⟨⟨b0, b1, b2, b3⟩, ⟨b4, b5, b6, b7⟩⟩ := hB.eight
      obtain ⟨⟨c0, c1⟩, -⟩ := hC.pair
      have HN : Hid (OwnRow wr w.heap.size 45 [.bool t0, .int .i64 d0, .bool t1, .int .i64 d1, .bool true, .int .i64 d2, .bool t3, .int .i64 d3] ∧ OwnRow wr (w.heap.size + 1) 44 [.bool t, .int .i64 d] ∧ OwnRow wr (w.heap.size + 2) 45 [.bool false, .int .i64 0, .bool false, .int .i64 0, .bool false, .int .i64 0, .bool false, .int .i64 0] ∧ Below w.heap.size w wr) := ⟨hA, hC, hB, hbel⟩
      clear hA hB hC hj
      go_wp2
      go_roundw
      case rel => exact ⟨1, by omega, by omega, rfl, HN.out⟩
      case measure => simp [intOf]
    · have f0 := hA.free
      have f1 := hB.free
      obtain ⟨⟨a0, a1, a2, a3⟩, ⟨a4, a5, a6, a7⟩⟩ := hA.eight
      obtain ⟨⟨b0, b1, b2, b3⟩, ⟨b4, b5, b6, b7⟩⟩ := hB.eight
      obtain ⟨⟨c0, c1⟩, -⟩ := hC.pair
      have HN : Hid (OwnRow wr w.heap.size 45 [.bool t0, .int .i64 d0, .bool t1, .int .i64 d1, .bool true, .int .i64 d2, .bool t3, .int .i64 d3] ∧ OwnRow wr (w.heap.size + 1) 44 [.bool t, .int .i64 d] ∧ OwnRow wr (w.heap.size + 2) 45 [.bool false, .int .i64 0, .bool false, .int .i64 0, .bool false, .int .i64 0, .bool false, .int .i64 0] ∧ Below w.heap.size w wr) := ⟨hA, hC, hB, hbel⟩
      clear hA hB hC hj
      go_wp2
      go_roundw
      case rel => exact ⟨2, by omega, by omega, rfl, HN.out⟩
      case measure => simp [intOf]
    · have f0 := hA.free
      have f1 := hB.free
      obtain ⟨⟨a0, a1, a2, a3⟩, ⟨a4, a5, a6, a7⟩⟩ := hA.eight
      obtain ⟨⟨b0, b1, b2, b3⟩, ⟨b4, b5, b6, b7⟩⟩ := hB.eight
      obtain ⟨⟨c0, c1⟩, -⟩ := hC.pair
      have HB : Hid (OwnRow wr (w.heap.size + 2) 45 [.bool false, .int .i64 0, .bool false, .int .i64 0, .bool false, .int .i64 0, .bool false, .int .i64 0] ∧ Below w.heap.size w wr) := ⟨hB, hbel⟩
      clear hA hB hC hbel
      go_wp2
      exact bodyPost_ret (v := keV no8 2) (results_cell_tmp Try.results22 _ _ _ _ _ rfl rfl (load8 (row8_set (HB.out.1) _ _ _ _ _ _ _ _))) rfl ⟨rfl, below8_set (HB.out.2) (by omega) _ _ _ _ _ _ _ _⟩

set_option maxHeartbeats 1600000 in
theorem jch_ok_2 (t0 t1 t3 : Bool) (d0 d1 d2 d3 : Int) (m : Nat) (t : Bool) (d : Int) (w : World) (hm : m ≤ 2) (hd0 : 0 ≤ d) (hd3 : d ≤ 3) :
    Calls Try.prog 22 #[kv (t0, d0, t1, d1, true, d2, t3, d3), .int .i64 2, .int .i64 m, .agg #[.bool t, .int .i64 d]] w fun e w' => e = .returned (keV (t0, d0, t1, d1, t, d, t3, d3) 0) ∧ Below w.heap.size w w' := by
  have H2 : Hid (∀ wr, wr = ((w.alloc (.cells #[.bool t0, .int .i64 d0, .bool t1, .int .i64 d1, .bool true, .int .i64 d2, .bool t3, .int .i64 d3] 45)).alloc (.cells #[.bool t, .int .i64 d] 44)).alloc (.cells #[.bool false, .int .i64 0, .bool false, .int .i64 0, .bool false, .int .i64 0, .bool false, .int .i64 0] 45) → OwnRow wr w.heap.size 45 [.bool t0, .int .i64 d0, .bool t1, .int .i64 d1, .bool true, .int .i64 d2, .bool t3, .int .i64 d3] ∧ OwnRow wr (w.heap.size + 1) 44 [.bool t, .int .i64 d] ∧ OwnRow wr (w.heap.size + 2) 45 [.bool false, .int .i64 0, .bool false, .int .i64 0, .bool false, .int .i64 0, .bool false, .int .i64 0] ∧ Below w.heap.size w wr) := by
    intro wr hwr
    have h2 := own_two (w := w) (xs := [.bool t0, .int .i64 d0, .bool t1, .int .i64 d1, .bool true, .int .i64 d2, .bool t3, .int .i64 d3]) (ys := [.bool t, .int .i64 d]) (e := 45) (e' := 44) (Below.refl _ _)
    rw [hwr]
    refine ⟨h2.1.alloc _, h2.2.alloc _, ?_, (((Below.refl _ _).alloc (Nat.le_refl _) _).alloc (by simp) _).alloc (by simp; omega) _⟩
    have := heap_alloc_new ((w.alloc (.cells #[.bool t0, .int .i64 d0, .bool t1, .int .i64 d1, .bool true, .int .i64 d2, .bool t3, .int .i64 d3] 45)).alloc (.cells #[.bool t, .int .i64 d] 44)) (.cells #[.bool false, .int .i64 0, .bool false, .int .i64 0, .bool false, .int .i64 0, .bool false, .int .i64 0] 45)
    simpa [OwnRow] using this
  go_enter Try.func22, Try.ntmps22
  go_wp2_with fail
  go_loopw [10] (fun i wr => ∃ j : Nat, m ≤ j ∧ j ≤ 2 ∧ i = .int .i64 j ∧ OwnRow wr w.heap.size 45 [.bool t0, .int .i64 d0, .bool t1, .int .i64 d1, .bool true, .int .i64 d2, .bool t3, .int .i64 d3] ∧ OwnRow wr (w.heap.size + 1) 44 [.bool t, .int .i64 d] ∧ OwnRow wr (w.heap.size + 2) 45 [.bool false, .int .i64 0, .bool false, .int .i64 0, .bool false, .int .i64 0, .bool false, .int .i64 0] ∧ Below w.heap.size w wr) (fun i _ => 4 - (intOf i).toNat)
  case atStart => exact ⟨m, by omega, by omega, rfl, H2.out _ rfl⟩
  case round =>
    clear H2
    obtain ⟨j, hmj, hj, rfl, hA, hC, hB, hbel⟩ := hrel
    have hzB : w.heap.size + 2 < wr.heap.size := hB.lt
    have hzC : w.heap.size + 1 < wr.heap.size := hC.lt
    have hzA : w.heap.size < wr.heap.size := hA.lt
    have hj4 : j = 0 ∨ j = 1 ∨ j = 2 := by omega
    rcases hj4 with rfl | rfl | rfl
    · have f0 := hA.free
      have f1 := hB.free
      obtain ⟨⟨a0, a1, a2, a3⟩, ⟨a4, a5, a6, a7⟩⟩ := hA.eight
      obtain ⟨⟨b0, b1, b2, b3⟩, ⟨b4, b5, b6, b7⟩⟩ := hB.eight
      obtain ⟨⟨c0, c1⟩, -⟩ := hC.pair
      have HN : Hid (OwnRow wr w.heap.size 45 [.bool t0, .int .i64 d0, .bool t1, .int .i64 d1, .bool true, .int .i64 d2, .bool t3, .int .i64 d3] ∧ OwnRow wr (w.heap.size + 1) 44 [.bool t, .int .i64 d] ∧ OwnRow wr (w.heap.size + 2) 45 [.bool false, .int .i64 0, .bool false, .int .i64 0, .bool false, .int .i64 0, .bool false, .int .i64 0] ∧ Below w.heap.size w wr) := ⟨hA, hC, hB, hbel⟩
      clear hA hB hC hj
      go_wp2
      go_roundw
      case rel => exact ⟨1, by omega, by omega, rfl, HN.out⟩
      case measure => simp [intOf]
    · have f0 := hA.free
      have f1 := hB.free
      obtain ⟨⟨a0, a1, a2, a3⟩, ⟨a4, a5, a6, a7⟩⟩ := hA.eight
      obtain ⟨⟨b0, b1, b2, b3⟩, ⟨b4, b5, b6, b7⟩⟩ := hB.eight
      obtain ⟨⟨c0, c1⟩, -⟩ := hC.pair
      have HN : Hid (OwnRow wr w.heap.size 45 [.bool t0, .int .i64 d0, .bool t1, .int .i64 d1, .bool true, .int .i64 d2, .bool t3, .int .i64 d3] ∧ OwnRow wr (w.heap.size + 1) 44 [.bool t, .int .i64 d] ∧ OwnRow wr (w.heap.size + 2) 45 [.bool false, .int .i64 0, .bool false, .int .i64 0, .bool false, .int .i64 0, .bool false, .int .i64 0] ∧ Below w.heap.size w wr) := ⟨hA, hC, hB, hbel⟩
      clear hA hB hC hj
      go_wp2
      go_roundw
      case rel => exact ⟨2, by omega, by omega, rfl, HN.out⟩
      case measure => simp [intOf]
    · have f0 := hA.free
      have f1 := hB.free
      obtain ⟨⟨a0, a1, a2, a3⟩, ⟨a4, a5, a6, a7⟩⟩ := hA.eight
      obtain ⟨⟨b0, b1, b2, b3⟩, ⟨b4, b5, b6, b7⟩⟩ := hB.eight
      obtain ⟨⟨c0, c1⟩, -⟩ := hC.pair
      have HB : Hid (OwnRow wr (w.heap.size + 2) 45 [.bool false, .int .i64 0, .bool false, .int .i64 0, .bool false, .int .i64 0, .bool false, .int .i64 0] ∧ Below w.heap.size w wr) := ⟨hB, hbel⟩
      clear hA hB hC hbel
      go_wp2
      exact bodyPost_ret (v := keV (t0, d0, t1, d1, t, d, t3, d3) 0) (results_cell_tmp Try.results22 _ _ _ _ _ rfl rfl (load8 (row8_set (OwnRow.beside (OwnRow.beside HB.out.1 (by omega) _) (by omega) _) _ _ _ _ _ _ _ _))) rfl ⟨rfl, below8_set ((HB.out.2.setCell (by simp) _).setCell (by simp) _) (by omega) _ _ _ _ _ _ _ _⟩

set_option maxHeartbeats 1600000 in
theorem jch_low_3 (t0 t1 t2 : Bool) (d0 d1 d2 d3 : Int) (m : Nat) (t : Bool) (d : Int) (w : World) (hm : m ≤ 3) (hd : d < 0) :
    Calls Try.prog 22 #[kv (t0, d0, t1, d1, t2, d2, true, d3), .int .i64 3, .int .i64 m, .agg #[.bool t, .int .i64 d]] w fun e w' => e = .returned (keV no8 2) ∧ Below w.heap.size w w' := by
  have H2 : Hid (∀ wr, wr = ((w.alloc (.cells #[.bool t0, .int .i64 d0, .bool t1, .int .i64 d1, .bool t2, .int .i64 d2, .bool true, .int .i64 d3] 45)).alloc (.cells #[.bool t, .int .i64 d] 44)).alloc (.cells #[.bool false, .int .i64 0, .bool false, .int .i64 0, .bool false, .int .i64 0, .bool false, .int .i64 0] 45) → OwnRow wr w.heap.size 45 [.bool t0, .int .i64 d0, .bool t1, .int .i64 d1, .bool t2, .int .i64 d2, .bool true, .int .i64 d3] ∧ OwnRow wr (w.heap.size + 1) 44 [.bool t, .int .i64 d] ∧ OwnRow wr (w.heap.size + 2) 45 [.bool false, .int .i64 0, .bool false, .int .i64 0, .bool false, .int .i64 0, .bool false, .int .i64 0] ∧ Below w.heap.size w wr) := by
    intro wr hwr
    have h2 := own_two (w := w) (xs := [.bool t0, .int .i64 d0, .bool t1, .int .i64 d1, .bool t2, .int .i64 d2, .bool true, .int .i64 d3]) (ys := [.bool t, .int .i64 d]) (e := 45) (e' := 44) (Below.refl _ _)
    rw [hwr]
    refine ⟨h2.1.alloc _, h2.2.alloc _, ?_, (((Below.refl _ _).alloc (Nat.le_refl _) _).alloc (by simp) _).alloc (by simp; omega) _⟩
    have := heap_alloc_new ((w.alloc (.cells #[.bool t0, .int .i64 d0, .bool t1, .int .i64 d1, .bool t2, .int .i64 d2, .bool true, .int .i64 d3] 45)).alloc (.cells #[.bool t, .int .i64 d] 44)) (.cells #[.bool false, .int .i64 0, .bool false, .int .i64 0, .bool false, .int .i64 0, .bool false, .int .i64 0] 45)
    simpa [OwnRow] using this
  go_enter Try.func22, Try.ntmps22
  go_wp2_with fail
  go_loopw [10] (fun i wr => ∃ j : Nat, m ≤ j ∧ j ≤ 3 ∧ i = .int .i64 j ∧ OwnRow wr w.heap.size 45 [.bool t0, .int .i64 d0, .bool t1, .int .i64 d1, .bool t2, .int .i64 d2, .bool true, .int .i64 d3] ∧ OwnRow wr (w.heap.size + 1) 44 [.bool t, .int .i64 d] ∧ OwnRow wr (w.heap.size + 2) 45 [.bool false, .int .i64 0, .bool false, .int .i64 0, .bool false, .int .i64 0, .bool false, .int .i64 0] ∧ Below w.heap.size w wr) (fun i _ => 4 - (intOf i).toNat)
  case atStart => exact ⟨m, by omega, by omega, rfl, H2.out _ rfl⟩
  case round =>
    clear H2
    obtain ⟨j, hmj, hj, rfl, hA, hC, hB, hbel⟩ := hrel
    have hzB : w.heap.size + 2 < wr.heap.size := hB.lt
    have hzC : w.heap.size + 1 < wr.heap.size := hC.lt
    have hzA : w.heap.size < wr.heap.size := hA.lt
    have hj4 : j = 0 ∨ j = 1 ∨ j = 2 ∨ j = 3 := by omega
    rcases hj4 with rfl | rfl | rfl | rfl
    · have f0 := hA.free
      have f1 := hB.free
      obtain ⟨⟨a0, a1, a2, a3⟩, ⟨a4, a5, a6, a7⟩⟩ := hA.eight
      obtain ⟨⟨b0, b1, b2, b3⟩, ⟨b4, b5, b6, b7⟩⟩ := hB.eight
      obtain ⟨⟨c0, c1⟩, -⟩ := hC.pair
      have HN : Hid (OwnRow wr w.heap.size 45 [.bool t0, .int .i64 d0, .bool t1, .int .i64 d1, .bool t2, .int .i64 d2, .bool true, .int .i64 d3] ∧ OwnRow wr (w.heap.size + 1) 44 [.bool t, .int .i64 d] ∧ OwnRow wr (w.heap.size + 2) 45 [.bool false, .int .i64 0, .bool false, .int .i64 0, .bool false, .int .i64 0, .bool false, .int .i64 0] ∧ Below w.heap.size w wr) := ⟨hA, hC, hB, hbel⟩
      clear hA hB hC hj
      go_wp2
      go_roundw
      case rel => exact ⟨1, by omega, by omega, rfl, HN.out⟩
      case measure => simp [intOf]
    · have f0 := hA.free
      have f1 := hB.free
      obtain ⟨⟨a0, a1, a2, a3⟩, ⟨a4, a5, a6, a7⟩⟩ := hA.eight
      obtain ⟨⟨b0, b1, b2, b3⟩, ⟨b4, b5, b6, b7⟩⟩ := hB.eight
      obtain ⟨⟨c0, c1⟩, -⟩ := hC.pair
      have HN : Hid (OwnRow wr w.heap.size 45 [.bool t0, .int .i64 d0, .bool t1, .int .i64 d1, .bool t2, .int .i64 d2, .bool true, .int .i64 d3] ∧ OwnRow wr (w.heap.size + 1) 44 [.bool t, .int .i64 d] ∧ OwnRow wr (w.heap.size + 2) 45 [.bool false, .int .i64 0, .bool false, .int .i64 0, .bool false, .int .i64 0, .bool false, .int .i64 0] ∧ Below w.heap.size w wr) := ⟨hA, hC, hB, hbel⟩
      clear hA hB hC hj
      go_wp2
      go_roundw
      case rel => exact ⟨2, by omega, by omega, rfl, HN.out⟩
      case measure => simp [intOf]
    · have f0 := hA.free
      have f1 := hB.free
      obtain ⟨⟨a0, a1, a2, a3⟩, ⟨a4, a5, a6, a7⟩⟩ := hA.eight
      obtain ⟨⟨b0, b1, b2, b3⟩, ⟨b4, b5, b6, b7⟩⟩ := hB.eight
      obtain ⟨⟨c0, c1⟩, -⟩ := hC.pair
      have HN : Hid (OwnRow wr w.heap.size 45 [.bool t0, .int .i64 d0, .bool t1, .int .i64 d1, .bool t2, .int .i64 d2, .bool true, .int .i64 d3] ∧ OwnRow wr (w.heap.size + 1) 44 [.bool t, .int .i64 d] ∧ OwnRow wr (w.heap.size + 2) 45 [.bool false, .int .i64 0, .bool false, .int .i64 0, .bool false, .int .i64 0, .bool false, .int .i64 0] ∧ Below w.heap.size w wr) := ⟨hA, hC, hB, hbel⟩
      clear hA hB hC hj
      go_wp2
      go_roundw
      case rel => exact ⟨3, by omega, by omega, rfl, HN.out⟩
      case measure => simp [intOf]
    · have f0 := hA.free
      have f1 := hB.free
      obtain ⟨⟨a0, a1, a2, a3⟩, ⟨a4, a5, a6, a7⟩⟩ := hA.eight
      obtain ⟨⟨b0, b1, b2, b3⟩, ⟨b4, b5, b6, b7⟩⟩ := hB.eight
      obtain ⟨⟨c0, c1⟩, -⟩ := hC.pair
      have HB : Hid (OwnRow wr (w.heap.size + 2) 45 [.bool false, .int .i64 0, .bool false, .int .i64 0, .bool false, .int .i64 0, .bool false, .int .i64 0] ∧ Below w.heap.size w wr) := ⟨hB, hbel⟩
      clear hA hB hC hbel
      go_wp2
      exact bodyPost_ret (v := keV no8 2) (results_cell_tmp Try.results22 _ _ _ _ _ rfl rfl (load8 (row8_set (HB.out.1) _ _ _ _ _ _ _ _))) rfl ⟨rfl, below8_set (HB.out.2) (by omega) _ _ _ _ _ _ _ _⟩

set_option maxHeartbeats 1600000 in
theorem jch_high_3 (t0 t1 t2 : Bool) (d0 d1 d2 d3 : Int) (m : Nat) (t : Bool) (d : Int) (w : World) (hm : m ≤ 3) (hd : 3 < d) :
    Calls Try.prog 22 #[kv (t0, d0, t1, d1, t2, d2, true, d3), .int .i64 3, .int .i64 m, .agg #[.bool t, .int .i64 d]] w fun e w' => e = .returned (keV no8 2) ∧ Below w.heap.size w w' := by
  have H2 : Hid (∀ wr, wr = ((w.alloc (.cells #[.bool t0, .int .i64 d0, .bool t1, .int .i64 d1, .bool t2, .int .i64 d2, .bool true, .int .i64 d3] 45)).alloc (.cells #[.bool t, .int .i64 d] 44)).alloc (.cells #[.bool false, .int .i64 0, .bool false, .int .i64 0, .bool false, .int .i64 0, .bool false, .int .i64 0] 45) → OwnRow wr w.heap.size 45 [.bool t0, .int .i64 d0, .bool t1, .int .i64 d1, .bool t2, .int .i64 d2, .bool true, .int .i64 d3] ∧ OwnRow wr (w.heap.size + 1) 44 [.bool t, .int .i64 d] ∧ OwnRow wr (w.heap.size + 2) 45 [.bool false, .int .i64 0, .bool false, .int .i64 0, .bool false, .int .i64 0, .bool false, .int .i64 0] ∧ Below w.heap.size w wr) := by
    intro wr hwr
    have h2 := own_two (w := w) (xs := [.bool t0, .int .i64 d0, .bool t1, .int .i64 d1, .bool t2, .int .i64 d2, .bool true, .int .i64 d3]) (ys := [.bool t, .int .i64 d]) (e := 45) (e' := 44) (Below.refl _ _)
    rw [hwr]
    refine ⟨h2.1.alloc _, h2.2.alloc _, ?_, (((Below.refl _ _).alloc (Nat.le_refl _) _).alloc (by simp) _).alloc (by simp; omega) _⟩
    have := heap_alloc_new ((w.alloc (.cells #[.bool t0, .int .i64 d0, .bool t1, .int .i64 d1, .bool t2, .int .i64 d2, .bool true, .int .i64 d3] 45)).alloc (.cells #[.bool t, .int .i64 d] 44)) (.cells #[.bool false, .int .i64 0, .bool false, .int .i64 0, .bool false, .int .i64 0, .bool false, .int .i64 0] 45)
    simpa [OwnRow] using this
  go_enter Try.func22, Try.ntmps22
  go_wp2_with fail
  go_loopw [10] (fun i wr => ∃ j : Nat, m ≤ j ∧ j ≤ 3 ∧ i = .int .i64 j ∧ OwnRow wr w.heap.size 45 [.bool t0, .int .i64 d0, .bool t1, .int .i64 d1, .bool t2, .int .i64 d2, .bool true, .int .i64 d3] ∧ OwnRow wr (w.heap.size + 1) 44 [.bool t, .int .i64 d] ∧ OwnRow wr (w.heap.size + 2) 45 [.bool false, .int .i64 0, .bool false, .int .i64 0, .bool false, .int .i64 0, .bool false, .int .i64 0] ∧ Below w.heap.size w wr) (fun i _ => 4 - (intOf i).toNat)
  case atStart => exact ⟨m, by omega, by omega, rfl, H2.out _ rfl⟩
  case round =>
    clear H2
    obtain ⟨j, hmj, hj, rfl, hA, hC, hB, hbel⟩ := hrel
    have hzB : w.heap.size + 2 < wr.heap.size := hB.lt
    have hzC : w.heap.size + 1 < wr.heap.size := hC.lt
    have hzA : w.heap.size < wr.heap.size := hA.lt
    have hj4 : j = 0 ∨ j = 1 ∨ j = 2 ∨ j = 3 := by omega
    rcases hj4 with rfl | rfl | rfl | rfl
    · have f0 := hA.free
      have f1 := hB.free
      obtain ⟨⟨a0, a1, a2, a3⟩, ⟨a4, a5, a6, a7⟩⟩ := hA.eight
      obtain ⟨⟨b0, b1, b2, b3⟩, ⟨b4, b5, b6, b7⟩⟩ := hB.eight
      obtain ⟨⟨c0, c1⟩, -⟩ := hC.pair
      have HN : Hid (OwnRow wr w.heap.size 45 [.bool t0, .int .i64 d0, .bool t1, .int .i64 d1, .bool t2, .int .i64 d2, .bool true, .int .i64 d3] ∧ OwnRow wr (w.heap.size + 1) 44 [.bool t, .int .i64 d] ∧ OwnRow wr (w.heap.size + 2) 45 [.bool false, .int .i64 0, .bool false, .int .i64 0, .bool false, .int .i64 0, .bool false, .int .i64 0] ∧ Below w.heap.size w wr) := ⟨hA, hC, hB, hbel⟩
      clear hA hB hC hj
      go_wp2
      go_roundw
      case rel => exact ⟨1, by omega, by omega, rfl, HN.out⟩
      case measure => simp [intOf]
    · have f0 := hA.free
      have f1 := hB.free
      obtain ⟨⟨a0, a1, a2, a3⟩, ⟨a4, a5, a6, a7⟩⟩ := hA.eight
      obtain ⟨⟨b0, b1, b2, b3⟩, ⟨b4, b5, b6, b7⟩⟩ := hB.eight
      obtain ⟨⟨c0, c1⟩, -⟩ := hC.pair
      have HN : Hid (OwnRow wr w.heap.size 45 [.bool t0, .int .i64 d0, .bool t1, .int .i64 d1, .bool t2, .int .i64 d2, .bool true, .int .i64 d3] ∧ OwnRow wr (w.heap.size + 1) 44 [.bool t, .int .i64 d] ∧ OwnRow wr (w.heap.size + 2) 45 [.bool false, .int .i64 0, .bool false, .int .i64 0, .bool false, .int .i64 0, .bool false, .int .i64 0] ∧ Below w.heap.size w wr) := ⟨hA, hC, hB, hbel⟩
      clear hA hB hC hj
      go_wp2
      go_roundw
      case rel => exact ⟨2, by omega, by omega, rfl, HN.out⟩
      case measure => simp [intOf]
    · have f0 := hA.free
      have f1 := hB.free
      obtain ⟨⟨a0, a1, a2, a3⟩, ⟨a4, a5, a6, a7⟩⟩ := hA.eight
      obtain ⟨⟨b0, b1, b2, b3⟩, ⟨b4, b5, b6, b7⟩⟩ := hB.eight
      obtain ⟨⟨c0, c1⟩, -⟩ := hC.pair
      have HN : Hid (OwnRow wr w.heap.size 45 [.bool t0, .int .i64 d0, .bool t1, .int .i64 d1, .bool t2, .int .i64 d2, .bool true, .int .i64 d3] ∧ OwnRow wr (w.heap.size + 1) 44 [.bool t, .int .i64 d] ∧ OwnRow wr (w.heap.size + 2) 45 [.bool false, .int .i64 0, .bool false, .int .i64 0, .bool false, .int .i64 0, .bool false, .int .i64 0] ∧ Below w.heap.size w wr) := ⟨hA, hC, hB, hbel⟩
      clear hA hB hC hj
      go_wp2
      go_roundw
      case rel => exact ⟨3, by omega, by omega, rfl, HN.out⟩
      case measure => simp [intOf]
    · have f0 := hA.free
      have f1 := hB.free
      obtain ⟨⟨a0, a1, a2, a3⟩, ⟨a4, a5, a6, a7⟩⟩ := hA.eight
      obtain ⟨⟨b0, b1, b2, b3⟩, ⟨b4, b5, b6, b7⟩⟩ := hB.eight
      obtain ⟨⟨c0, c1⟩, -⟩ := hC.pair
      have HB : Hid (OwnRow wr (w.heap.size + 2) 45 [.bool false, .int .i64 0, .bool false, .int .i64 0, .bool false, .int .i64 0, .bool false, .int .i64 0] ∧ Below w.heap.size w wr) := ⟨hB, hbel⟩
      clear hA hB hC hbel
      go_wp2
      exact bodyPost_ret (v := keV no8 2) (results_cell_tmp Try.results22 _ _ _ _ _ rfl rfl (load8 (row8_set (HB.out.1) _ _ _ _ _ _ _ _))) rfl ⟨rfl, below8_set (HB.out.2) (by omega) _ _ _ _ _ _ _ _⟩

set_option maxHeartbeats 1600000 in
theorem jch_ok_3 (t0 t1 t2 : Bool) (d0 d1 d2 d3 : Int) (m : Nat) (t : Bool) (d : Int) (w : World) (hm : m ≤ 3) (hd0 : 0 ≤ d) (hd3 : d ≤ 3) :
    Calls Try.prog 22 #[kv (t0, d0, t1, d1, t2, d2, true, d3), .int .i64 3, .int .i64 m, .agg #[.bool t, .int .i64 d]] w fun e w' => e = .returned (keV (t0, d0, t1, d1, t2, d2, t, d) 0) ∧ Below w.heap.size w w' := by
  have H2 : Hid (∀ wr, wr = ((w.alloc (.cells #[.bool t0, .int .i64 d0, .bool t1, .int .i64 d1, .bool t2, .int .i64 d2, .bool true, .int .i64 d3] 45)).alloc (.cells #[.bool t, .int .i64 d] 44)).alloc (.cells #[.bool false, .int .i64 0, .bool false, .int .i64 0, .bool false, .int .i64 0, .bool false, .int .i64 0] 45) → OwnRow wr w.heap.size 45 [.bool t0, .int .i64 d0, .bool t1, .int .i64 d1, .bool t2, .int .i64 d2, .bool true, .int .i64 d3] ∧ OwnRow wr (w.heap.size + 1) 44 [.bool t, .int .i64 d] ∧ OwnRow wr (w.heap.size + 2) 45 [.bool false, .int .i64 0, .bool false, .int .i64 0, .bool false, .int .i64 0, .bool false, .int .i64 0] ∧ Below w.heap.size w wr) := by
    intro wr hwr
    have h2 := own_two (w := w) (xs := [.bool t0, .int .i64 d0, .bool t1, .int .i64 d1, .bool t2, .int .i64 d2, .bool true, .int .i64 d3]) (ys := [.bool t, .int .i64 d]) (e := 45) (e' := 44) (Below.refl _ _)
    rw [hwr]
    refine ⟨h2.1.alloc _, h2.2.alloc _, ?_, (((Below.refl _ _).alloc (Nat.le_refl _) _).alloc (by simp) _).alloc (by simp; omega) _⟩
    have := heap_alloc_new ((w.alloc (.cells #[.bool t0, .int .i64 d0, .bool t1, .int .i64 d1, .bool t2, .int .i64 d2, .bool true, .int .i64 d3] 45)).alloc (.cells #[.bool t, .int .i64 d] 44)) (.cells #[.bool false, .int .i64 0, .bool false, .int .i64 0, .bool false, .int .i64 0, .bool false, .int .i64 0] 45)
    simpa [OwnRow] using this
  go_enter Try.func22, Try.ntmps22
  go_wp2_with fail
  go_loopw [10] (fun i wr => ∃ j : Nat, m ≤ j ∧ j ≤ 3 ∧ i = .int .i64 j ∧ OwnRow wr w.heap.size 45 [.bool t0, .int .i64 d0, .bool t1, .int .i64 d1, .bool t2, .int .i64 d2, .bool true, .int .i64 d3] ∧ OwnRow wr (w.heap.size + 1) 44 [.bool t, .int .i64 d] ∧ OwnRow wr (w.heap.size + 2) 45 [.bool false, .int .i64 0, .bool false, .int .i64 0, .bool false, .int .i64 0, .bool false, .int .i64 0] ∧ Below w.heap.size w wr) (fun i _ => 4 - (intOf i).toNat)
  case atStart => exact ⟨m, by omega, by omega, rfl, H2.out _ rfl⟩
  case round =>
    clear H2
    obtain ⟨j, hmj, hj, rfl, hA, hC, hB, hbel⟩ := hrel
    have hzB : w.heap.size + 2 < wr.heap.size := hB.lt
    have hzC : w.heap.size + 1 < wr.heap.size := hC.lt
    have hzA : w.heap.size < wr.heap.size := hA.lt
    have hj4 : j = 0 ∨ j = 1 ∨ j = 2 ∨ j = 3 := by omega
    rcases hj4 with rfl | rfl | rfl | rfl
    · have f0 := hA.free
      have f1 := hB.free
      obtain ⟨⟨a0, a1, a2, a3⟩, ⟨a4, a5, a6, a7⟩⟩ := hA.eight
      obtain ⟨⟨b0, b1, b2, b3⟩, ⟨b4, b5, b6, b7⟩⟩ := hB.eight
      obtain ⟨⟨c0, c1⟩, -⟩ := hC.pair
      have HN : Hid (OwnRow wr w.heap.size 45 [.bool t0, .int .i64 d0, .bool t1, .int .i64 d1, .bool t2, .int .i64 d2, .bool true, .int .i64 d3] ∧ OwnRow wr (w.heap.size + 1) 44 [.bool t, .int .i64 d] ∧ OwnRow wr (w.heap.size + 2) 45 [.bool false, .int .i64 0, .bool false, .int .i64 0, .bool false, .int .i64 0, .bool false, .int .i64 0] ∧ Below w.heap.size w wr) := ⟨hA, hC, hB, hbel⟩
      clear hA hB hC hj
      go_wp2
      go_roundw
      case rel => exact ⟨1, by omega, by omega, rfl, HN.out⟩
      case measure => simp [intOf]
    · have f0 := hA.free
      have f1 := hB.free
      obtain ⟨⟨a0, a1, a2, a3⟩, ⟨a4, a5, a6, a7⟩⟩ := hA.eight
      obtain ⟨⟨b0, b1, b2, b3⟩, ⟨b4, b5, b6, b7⟩⟩ := hB.eight
      obtain ⟨⟨c0, c1⟩, -⟩ := hC.pair
      have HN : Hid (OwnRow wr w.heap.size 45 [.bool t0, .int .i64 d0, .bool t1, .int .i64 d1, .bool t2, .int .i64 d2, .bool true, .int .i64 d3] ∧ OwnRow wr (w.heap.size + 1) 44 [.bool t, .int .i64 d] ∧ OwnRow wr (w.heap.size + 2) 45 [.bool false, .int .i64 0, .bool false, .int .i64 0, .bool false, .int .i64 0, .bool false, .int .i64 0] ∧ Below w.heap.size w wr) := ⟨hA, hC, hB, hbel⟩
      clear hA hB hC hj
      go_wp2
      go_roundw
      case rel => exact ⟨2, by omega, by omega, rfl, HN.out⟩
      case measure => simp [intOf]
    · have f0 := hA.free
      have f1 := hB.free
      obtain ⟨⟨a0, a1, a2, a3⟩, ⟨a4, a5, a6, a7⟩⟩ := hA.eight
      obtain ⟨⟨b0, b1, b2, b3⟩, ⟨b4, b5, b6, b7⟩⟩ := hB.eight
      obtain ⟨⟨c0, c1⟩, -⟩ := hC.pair
      have HN : Hid (OwnRow wr w.heap.size 45 [.bool t0, .int .i64 d0, .bool t1, .int .i64 d1, .bool t2, .int .i64 d2, .bool true, .int .i64 d3] ∧ OwnRow wr (w.heap.size + 1) 44 [.bool t, .int .i64 d] ∧ OwnRow wr (w.heap.size + 2) 45 [.bool false, .int .i64 0, .bool false, .int .i64 0, .bool false, .int .i64 0, .bool false, .int .i64 0] ∧ Below w.heap.size w wr) := ⟨hA, hC, hB, hbel⟩
      clear hA hB hC hj
      go_wp2
      go_roundw
      case rel => exact ⟨3, by omega, by omega, rfl, HN.out⟩
      case measure => simp [intOf]
    · have f0 := hA.free
      have f1 := hB.free
      obtain ⟨⟨a0, a1, a2, a3⟩, ⟨a4, a5, a6, a7⟩⟩ := hA.eight
      obtain ⟨⟨b0, b1, b2, b3⟩, ⟨b4, b5, b6, b7⟩⟩ := hB.eight
      obtain ⟨⟨c0, c1⟩, -⟩ := hC.pair
      have HB : Hid (OwnRow wr (w.heap.size + 2) 45 [.bool false, .int .i64 0, .bool false, .int .i64 0, .bool false, .int .i64 0, .bool false, .int .i64 0] ∧ Below w.heap.size w wr) := ⟨hB, hbel⟩
      clear hA hB hC hbel
      go_wp2
      exact bodyPost_ret (v := keV (t0, d0, t1, d1, t2, d2, t, d) 0) (results_cell_tmp Try.results22 _ _ _ _ _ rfl rfl (load8 (row8_set (OwnRow.beside (OwnRow.beside HB.out.1 (by omega) _) (by omega) _) _ _ _ _ _ _ _ _))) rfl ⟨rfl, below8_set ((HB.out.2.setCell (by simp) _).setCell (by simp) _) (by omega) _ _ _ _ _ _ _ _⟩

theorem jch_any (l : K8) (k : Int) (m : Nat) (t : Bool) (d : Int) (w : World) (hm : m ≤ 1) :
    Calls Try.prog 22 #[kv l, .int .i64 k, .int .i64 m, .agg #[.bool t, .int .i64 d]] w fun e w' => e = .returned (keV (chL l k m t d) (chE l k m d)) ∧ Below w.heap.size w w' := by
  by_cases hk : k < m ∨ 3 < k
  · have hn : chL l k m t d = no8 ∧ chE l k m d = 3 := by
      have h3 : k < m ∨ tk l k = false := by
        rcases hk with h | h
        · exact Or.inl h
        · exact Or.inr (tk_out (Or.inr h))
      unfold chL chE
      rw [if_pos h3, if_pos (h3.imp id Or.inl)]
      exact ⟨rfl, rfl⟩
    rw [hn.1, hn.2]
    obtain ⟨t0, d0, t1, d1, t2, d2, t3, d3⟩ := l
    exact jch_out t0 t1 t2 t3 d0 d1 d2 d3 k m t d w hm hk
  have hk4 : k = 0 ∨ k = 1 ∨ k = 2 ∨ k = 3 := by omega
  have hkm : ¬ k < m := by omega
  have hmk : (m : Int) ≤ k := by omega
  clear hk
  cases ht : tk l k
  · have hn : chL l k m t d = no8 ∧ chE l k m d = 3 := by simp [chL, chE, ht]
    rw [hn.1, hn.2]
    obtain ⟨t0, d0, t1, d1, t2, d2, t3, d3⟩ := l
    rcases hk4 with rfl | rfl | rfl | rfl
    · obtain rfl : t0 = false := by simpa [tk] using ht
      exact jch_no_0 t1 t2 t3 d0 d1 d2 d3 m t d w (by omega)
    · obtain rfl : t1 = false := by simpa [tk] using ht
      exact jch_no_1 t0 t2 t3 d0 d1 d2 d3 m t d w (by omega)
    · obtain rfl : t2 = false := by simpa [tk] using ht
      exact jch_no_2 t0 t1 t3 d0 d1 d2 d3 m t d w (by omega)
    · obtain rfl : t3 = false := by simpa [tk] using ht
      exact jch_no_3 t0 t1 t2 d0 d1 d2 d3 m t d w (by omega)
  by_cases hd : d < 0 ∨ 3 < d
  · have hn : chL l k m t d = no8 ∧ chE l k m d = 2 := by simp [chL, chE, ht, hd]; omega
    rw [hn.1, hn.2]
    obtain ⟨t0, d0, t1, d1, t2, d2, t3, d3⟩ := l
    rcases hk4 with rfl | rfl | rfl | rfl
    · obtain rfl : t0 = true := by simpa [tk] using ht
      rcases hd with hd | hd
      · exact jch_low_0 t1 t2 t3 d0 d1 d2 d3 m t d w (by omega) hd
      · exact jch_high_0 t1 t2 t3 d0 d1 d2 d3 m t d w (by omega) hd
    · obtain rfl : t1 = true := by simpa [tk] using ht
      rcases hd with hd | hd
      · exact jch_low_1 t0 t2 t3 d0 d1 d2 d3 m t d w (by omega) hd
      · exact jch_high_1 t0 t2 t3 d0 d1 d2 d3 m t d w (by omega) hd
    · obtain rfl : t2 = true := by simpa [tk] using ht
      rcases hd with hd | hd
      · exact jch_low_2 t0 t1 t3 d0 d1 d2 d3 m t d w (by omega) hd
      · exact jch_high_2 t0 t1 t3 d0 d1 d2 d3 m t d w (by omega) hd
    · obtain rfl : t3 = true := by simpa [tk] using ht
      rcases hd with hd | hd
      · exact jch_low_3 t0 t1 t2 d0 d1 d2 d3 m t d w (by omega) hd
      · exact jch_high_3 t0 t1 t2 d0 d1 d2 d3 m t d w (by omega) hd
  · have hn : chL l k m t d = put l k t d ∧ chE l k m d = 0 := by
      unfold chL chE
      rw [if_neg (by simp [ht]; omega), if_neg (by simp [ht]; omega), if_neg hd]
      exact ⟨rfl, rfl⟩
    rw [hn.1, hn.2]
    obtain ⟨t0, d0, t1, d1, t2, d2, t3, d3⟩ := l
    rcases hk4 with rfl | rfl | rfl | rfl
    · obtain rfl : t0 = true := by simpa [tk] using ht
      rw [put_0]
      exact jch_ok_0 t1 t2 t3 d0 d1 d2 d3 m t d w (by omega) (by omega) (by omega)
    · obtain rfl : t1 = true := by simpa [tk] using ht
      rw [put_1]
      exact jch_ok_1 t0 t2 t3 d0 d1 d2 d3 m t d w (by omega) (by omega) (by omega)
    · obtain rfl : t2 = true := by simpa [tk] using ht
      rw [put_2]
      exact jch_ok_2 t0 t1 t3 d0 d1 d2 d3 m t d w (by omega) (by omega) (by omega)
    · obtain rfl : t3 = true := by simpa [tk] using ht
      rw [put_3]
      exact jch_ok_3 t0 t1 t2 d0 d1 d2 d3 m t d w (by omega) (by omega) (by omega)

theorem fr_ch (l : K8) (k : Int) : frL l k = chL l k 1 false 0 ∧ frE l k = chE l k 1 0 := by
  unfold frL frE chL chE
  by_cases h0 : k = 0
  · subst h0
    simp
  · cases ht : tk l k
    · simp
    · have hk := tk_key ht
      have h1 : ¬ k < 1 := by omega
      simp [h0, h1]

theorem st_ch (l : K8) (k d : Int) : stL l k d = chL l k 0 true d ∧ stE l k d = chE l k 0 d := by
  unfold stL stE chL chE
  cases ht : tk l k
  · simp
  · have hk := tk_key ht
    have h1 : ¬ k < 0 := by omega
    simp [h1]

end Go.Proofs.Ytggecjfmgppciaf

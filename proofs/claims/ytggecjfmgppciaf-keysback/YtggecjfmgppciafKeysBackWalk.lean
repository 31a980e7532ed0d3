/- What was taken and given back is as it was: framewardenkeep.KeysBack returns true at all keys. -/
import Derived.Test.YtggecjfmgppciafAlive10
namespace Go.Proofs.Ytggecjfmgppciaf
open Go.RowKit
set_option linter.unusedSimpArgs false
set_option linter.unusedVariables false

set_option maxHeartbeats 3200000 in
theorem keysBack_0 (t1 t2 t3 : Bool) (d0 d1 d2 d3 : Int) (w : World) :
    Calls Try.prog 7 #[kv (false, d0, t1, d1, t2, d2, t3, d3)] w fun e w' => e = .returned (.bool true) ∧ Below w.heap.size w w' := by
  have H1 : Hid (∀ w1, Calls Try.prog 19 #[kv (false, d0, t1, d1, t2, d2, t3, d3)] w1 fun e w' => e = .returned (kneV (true, 0, t1, d1, t2, d2, t3, d3) 0 0) ∧ Below w1.heap.size w1 w') := fun w1 => new_0 t1 t2 t3 d0 d1 d2 d3 w1
  have H2 : Hid (∀ w1, Calls Try.prog 21 #[kv (true, 0, t1, d1, t2, d2, t3, d3), .int .i64 0] w1 fun e w' => e = .returned (.tuple #[.agg #[.bool false, .int .i64 0, .bool false, .int .i64 0, .bool false, .int .i64 0, .bool false, .int .i64 0], .int .i64 3]) ∧ Below w1.heap.size w1 w') := fun w1 => by
    have h := free_any (true, 0, t1, d1, t2, d2, t3, d3) 0 w1
    have hn : frL (true, 0, t1, d1, t2, d2, t3, d3) 0 = (false, 0, false, 0, false, 0, false, 0) ∧ frE (true, 0, t1, d1, t2, d2, t3, d3) 0 = 3 := by simp [frL, frE, tk, put, no8]
    rw [hn.1, hn.2] at h
    exact h
  have H3 : Hid (∀ w1, Calls Try.prog 21 #[kv (false, d0, t1, d1, t2, d2, t3, d3), .int .i64 0] w1 fun e w' => e = .returned (.tuple #[.agg #[.bool false, .int .i64 0, .bool false, .int .i64 0, .bool false, .int .i64 0, .bool false, .int .i64 0], .int .i64 3]) ∧ Below w1.heap.size w1 w') := fun w1 => by
    have h := free_any (false, d0, t1, d1, t2, d2, t3, d3) 0 w1
    have hn : frL (false, d0, t1, d1, t2, d2, t3, d3) 0 = no8 ∧ frE (false, d0, t1, d1, t2, d2, t3, d3) 0 = 3 := by simp [frL, frE]
    rw [hn.1, hn.2] at h
    exact h
  go_enter Try.func7, Try.ntmps7
  go_wp2_with fail
  refine (alive10_any _).mono ?_
  rintro e w0 ⟨rfl, hb0⟩
  have hw0 : Below w.heap.size w w0 := ((Below.refl _ _).alloc (Nat.le_refl _) _).trans (hb0.mono (by simp))
  have hL := own_one (xs := [_, _, _, _, _, _, _, _]) hb0
  clear hb0
  obtain ⟨⟨a0, a1, a2, a3⟩, ⟨a4, a5, a6, a7⟩⟩ := hL.eight
  have hz := hL.lt
  go_wp2_with fail
  refine (H1.out _).mono ?_
  rintro e w1 ⟨rfl, hb1⟩
  replace hL := hL.below hb1 hL.lt
  have hw1 := hw0.trans (hb1.mono hw0.size)
  clear hb1 hw0 hz a0 a1 a2 a3 a4 a5 a6 a7
  obtain ⟨⟨a0, a1, a2, a3⟩, ⟨a4, a5, a6, a7⟩⟩ := hL.eight
  have hz := hL.lt
  go_wp2_with fail
  refine (H2.out _).mono ?_
  rintro e w2 ⟨rfl, hb2⟩
  have hM := own_one (xs := [_, _, _, _, _, _, _, _]) hb2
  have hw2 : Below w.heap.size w w2 := (below_al hw1 _).trans (hb2.mono (below_al hw1 _).size)
  replace hL := (hL.alloc _).below hb2 (hL.alloc _).lt
  clear hb2 hw1 hz a0 a1 a2 a3 a4 a5 a6 a7
  obtain ⟨⟨a0, a1, a2, a3⟩, ⟨a4, a5, a6, a7⟩⟩ := hL.eight
  have hz := hL.lt
  have hzM := hM.lt
  go_wp2_with fail
  refine (H3.out _).mono ?_
  rintro e w3 ⟨rfl, hb3⟩
  have hNW := own_two (xs := [_, _, _, _, _, _, _, _]) (ys := [_, _, _, _, _, _, _, _]) hb3
  have hw3 : Below w.heap.size w w3 := (below_al (below_al hw2 _) _).trans (hb3.mono (below_al (below_al hw2 _) _).size)
  replace hL := ((hL.alloc _).alloc _).below hb3 ((hL.alloc _).alloc _).lt
  replace hM := ((hM.alloc _).alloc _).below hb3 ((hM.alloc _).alloc _).lt
  clear hb3 hw2 hz hzM a0 a1 a2 a3 a4 a5 a6 a7 H1 H2 H3
  obtain ⟨hN, hW⟩ := hNW
  obtain ⟨⟨a0, a1, a2, a3⟩, ⟨a4, a5, a6, a7⟩⟩ := hL.eight
  obtain ⟨⟨b0, b1, b2, b3⟩, ⟨b4, b5, b6, b7⟩⟩ := hM.eight
  obtain ⟨⟨c0, c1, c2, c3⟩, ⟨c4, c5, c6, c7⟩⟩ := hN.eight
  obtain ⟨⟨f0, f1, f2, f3⟩, ⟨f4, f5, f6, f7⟩⟩ := hW.eight
  have z0 := hL.lt
  have z1 := hM.lt
  have z2 := hN.lt
  have z3 := hW.lt
  have HW : Hid (∀ o, Below w.heap.size w (w3.alloc o)) := fun o => below_al hw3 o
  clear hL hM hN hW hw3
  have q0 := eql_keys false 0 t1 d1 t2 d2 t3 d3
  have q1 := eql_key true 0 true 0
  rw [show decide ((true, (0 : Int)) = (true, 0)) = true from rfl] at q1
  have qg := eqGuard_keys
  have qh := eqGuard_key
  go_wp2
  go_ret
  exact ⟨rfl, HW.out _⟩

set_option maxHeartbeats 3200000 in
theorem keysBack_1 (t2 t3 : Bool) (d0 d1 d2 d3 : Int) (w : World) :
    Calls Try.prog 7 #[kv (true, d0, false, d1, t2, d2, t3, d3)] w fun e w' => e = .returned (.bool true) ∧ Below w.heap.size w w' := by
  have H1 : Hid (∀ w1, Calls Try.prog 19 #[kv (true, d0, false, d1, t2, d2, t3, d3)] w1 fun e w' => e = .returned (kneV (true, d0, true, 0, t2, d2, t3, d3) 1 0) ∧ Below w1.heap.size w1 w') := fun w1 => new_1 t2 t3 d0 d1 d2 d3 w1
  have H2 : Hid (∀ w1, Calls Try.prog 21 #[kv (true, d0, true, 0, t2, d2, t3, d3), .int .i64 1] w1 fun e w' => e = .returned (.tuple #[.agg #[.bool true, .int .i64 d0, .bool false, .int .i64 0, .bool t2, .int .i64 d2, .bool t3, .int .i64 d3], .int .i64 0]) ∧ Below w1.heap.size w1 w') := fun w1 => by
    have h := free_any (true, d0, true, 0, t2, d2, t3, d3) 1 w1
    have hn : frL (true, d0, true, 0, t2, d2, t3, d3) 1 = (true, d0, false, 0, t2, d2, t3, d3) ∧ frE (true, d0, true, 0, t2, d2, t3, d3) 1 = 0 := by simp [frL, frE, tk, put, no8]
    rw [hn.1, hn.2] at h
    exact h
  have H3 : Hid (∀ w1, Calls Try.prog 21 #[kv (true, d0, false, d1, t2, d2, t3, d3), .int .i64 0] w1 fun e w' => e = .returned (.tuple #[.agg #[.bool false, .int .i64 0, .bool false, .int .i64 0, .bool false, .int .i64 0, .bool false, .int .i64 0], .int .i64 3]) ∧ Below w1.heap.size w1 w') := fun w1 => by
    have h := free_any (true, d0, false, d1, t2, d2, t3, d3) 0 w1
    have hn : frL (true, d0, false, d1, t2, d2, t3, d3) 0 = no8 ∧ frE (true, d0, false, d1, t2, d2, t3, d3) 0 = 3 := by simp [frL, frE]
    rw [hn.1, hn.2] at h
    exact h
  go_enter Try.func7, Try.ntmps7
  go_wp2_with fail
  refine (alive10_any _).mono ?_
  rintro e w0 ⟨rfl, hb0⟩
  have hw0 : Below w.heap.size w w0 := ((Below.refl _ _).alloc (Nat.le_refl _) _).trans (hb0.mono (by simp))
  have hL := own_one (xs := [_, _, _, _, _, _, _, _]) hb0
  clear hb0
  obtain ⟨⟨a0, a1, a2, a3⟩, ⟨a4, a5, a6, a7⟩⟩ := hL.eight
  have hz := hL.lt
  go_wp2_with fail
  refine (H1.out _).mono ?_
  rintro e w1 ⟨rfl, hb1⟩
  replace hL := hL.below hb1 hL.lt
  have hw1 := hw0.trans (hb1.mono hw0.size)
  clear hb1 hw0 hz a0 a1 a2 a3 a4 a5 a6 a7
  obtain ⟨⟨a0, a1, a2, a3⟩, ⟨a4, a5, a6, a7⟩⟩ := hL.eight
  have hz := hL.lt
  go_wp2_with fail
  refine (H2.out _).mono ?_
  rintro e w2 ⟨rfl, hb2⟩
  have hM := own_one (xs := [_, _, _, _, _, _, _, _]) hb2
  have hw2 : Below w.heap.size w w2 := (below_al hw1 _).trans (hb2.mono (below_al hw1 _).size)
  replace hL := (hL.alloc _).below hb2 (hL.alloc _).lt
  clear hb2 hw1 hz a0 a1 a2 a3 a4 a5 a6 a7
  obtain ⟨⟨a0, a1, a2, a3⟩, ⟨a4, a5, a6, a7⟩⟩ := hL.eight
  have hz := hL.lt
  have hzM := hM.lt
  go_wp2_with fail
  refine (H3.out _).mono ?_
  rintro e w3 ⟨rfl, hb3⟩
  have hNW := own_two (xs := [_, _, _, _, _, _, _, _]) (ys := [_, _, _, _, _, _, _, _]) hb3
  have hw3 : Below w.heap.size w w3 := (below_al (below_al hw2 _) _).trans (hb3.mono (below_al (below_al hw2 _) _).size)
  replace hL := ((hL.alloc _).alloc _).below hb3 ((hL.alloc _).alloc _).lt
  replace hM := ((hM.alloc _).alloc _).below hb3 ((hM.alloc _).alloc _).lt
  clear hb3 hw2 hz hzM a0 a1 a2 a3 a4 a5 a6 a7 H1 H2 H3
  obtain ⟨hN, hW⟩ := hNW
  obtain ⟨⟨a0, a1, a2, a3⟩, ⟨a4, a5, a6, a7⟩⟩ := hL.eight
  obtain ⟨⟨b0, b1, b2, b3⟩, ⟨b4, b5, b6, b7⟩⟩ := hM.eight
  obtain ⟨⟨c0, c1, c2, c3⟩, ⟨c4, c5, c6, c7⟩⟩ := hN.eight
  obtain ⟨⟨f0, f1, f2, f3⟩, ⟨f4, f5, f6, f7⟩⟩ := hW.eight
  have z0 := hL.lt
  have z1 := hM.lt
  have z2 := hN.lt
  have z3 := hW.lt
  have HW : Hid (∀ o, Below w.heap.size w (w3.alloc o)) := fun o => below_al hw3 o
  clear hL hM hN hW hw3
  have q0 := eql_keys true d0 false 0 t2 d2 t3 d3
  have q1 := eql_key true 0 true 0
  rw [show decide ((true, (0 : Int)) = (true, 0)) = true from rfl] at q1
  have qg := eqGuard_keys
  have qh := eqGuard_key
  go_wp2
  go_ret
  exact ⟨rfl, HW.out _⟩

set_option maxHeartbeats 3200000 in
theorem keysBack_2 (t3 : Bool) (d0 d1 d2 d3 : Int) (w : World) :
    Calls Try.prog 7 #[kv (true, d0, true, d1, false, d2, t3, d3)] w fun e w' => e = .returned (.bool true) ∧ Below w.heap.size w w' := by
  have H1 : Hid (∀ w1, Calls Try.prog 19 #[kv (true, d0, true, d1, false, d2, t3, d3)] w1 fun e w' => e = .returned (kneV (true, d0, true, d1, true, 0, t3, d3) 2 0) ∧ Below w1.heap.size w1 w') := fun w1 => new_2 t3 d0 d1 d2 d3 w1
  have H2 : Hid (∀ w1, Calls Try.prog 21 #[kv (true, d0, true, d1, true, 0, t3, d3), .int .i64 2] w1 fun e w' => e = .returned (.tuple #[.agg #[.bool true, .int .i64 d0, .bool true, .int .i64 d1, .bool false, .int .i64 0, .bool t3, .int .i64 d3], .int .i64 0]) ∧ Below w1.heap.size w1 w') := fun w1 => by
    have h := free_any (true, d0, true, d1, true, 0, t3, d3) 2 w1
    have hn : frL (true, d0, true, d1, true, 0, t3, d3) 2 = (true, d0, true, d1, false, 0, t3, d3) ∧ frE (true, d0, true, d1, true, 0, t3, d3) 2 = 0 := by simp [frL, frE, tk, put, no8]
    rw [hn.1, hn.2] at h
    exact h
  have H3 : Hid (∀ w1, Calls Try.prog 21 #[kv (true, d0, true, d1, false, d2, t3, d3), .int .i64 0] w1 fun e w' => e = .returned (.tuple #[.agg #[.bool false, .int .i64 0, .bool false, .int .i64 0, .bool false, .int .i64 0, .bool false, .int .i64 0], .int .i64 3]) ∧ Below w1.heap.size w1 w') := fun w1 => by
    have h := free_any (true, d0, true, d1, false, d2, t3, d3) 0 w1
    have hn : frL (true, d0, true, d1, false, d2, t3, d3) 0 = no8 ∧ frE (true, d0, true, d1, false, d2, t3, d3) 0 = 3 := by simp [frL, frE]
    rw [hn.1, hn.2] at h
    exact h
  go_enter Try.func7, Try.ntmps7
  go_wp2_with fail
  refine (alive10_any _).mono ?_
  rintro e w0 ⟨rfl, hb0⟩
  have hw0 : Below w.heap.size w w0 := ((Below.refl _ _).alloc (Nat.le_refl _) _).trans (hb0.mono (by simp))
  have hL := own_one (xs := [_, _, _, _, _, _, _, _]) hb0
  clear hb0
  obtain ⟨⟨a0, a1, a2, a3⟩, ⟨a4, a5, a6, a7⟩⟩ := hL.eight
  have hz := hL.lt
  go_wp2_with fail
  refine (H1.out _).mono ?_
  rintro e w1 ⟨rfl, hb1⟩
  replace hL := hL.below hb1 hL.lt
  have hw1 := hw0.trans (hb1.mono hw0.size)
  clear hb1 hw0 hz a0 a1 a2 a3 a4 a5 a6 a7
  obtain ⟨⟨a0, a1, a2, a3⟩, ⟨a4, a5, a6, a7⟩⟩ := hL.eight
  have hz := hL.lt
  go_wp2_with fail
  refine (H2.out _).mono ?_
  rintro e w2 ⟨rfl, hb2⟩
  have hM := own_one (xs := [_, _, _, _, _, _, _, _]) hb2
  have hw2 : Below w.heap.size w w2 := (below_al hw1 _).trans (hb2.mono (below_al hw1 _).size)
  replace hL := (hL.alloc _).below hb2 (hL.alloc _).lt
  clear hb2 hw1 hz a0 a1 a2 a3 a4 a5 a6 a7
  obtain ⟨⟨a0, a1, a2, a3⟩, ⟨a4, a5, a6, a7⟩⟩ := hL.eight
  have hz := hL.lt
  have hzM := hM.lt
  go_wp2_with fail
  refine (H3.out _).mono ?_
  rintro e w3 ⟨rfl, hb3⟩
  have hNW := own_two (xs := [_, _, _, _, _, _, _, _]) (ys := [_, _, _, _, _, _, _, _]) hb3
  have hw3 : Below w.heap.size w w3 := (below_al (below_al hw2 _) _).trans (hb3.mono (below_al (below_al hw2 _) _).size)
  replace hL := ((hL.alloc _).alloc _).below hb3 ((hL.alloc _).alloc _).lt
  replace hM := ((hM.alloc _).alloc _).below hb3 ((hM.alloc _).alloc _).lt
  clear hb3 hw2 hz hzM a0 a1 a2 a3 a4 a5 a6 a7 H1 H2 H3
  obtain ⟨hN, hW⟩ := hNW
  obtain ⟨⟨a0, a1, a2, a3⟩, ⟨a4, a5, a6, a7⟩⟩ := hL.eight
  obtain ⟨⟨b0, b1, b2, b3⟩, ⟨b4, b5, b6, b7⟩⟩ := hM.eight
  obtain ⟨⟨c0, c1, c2, c3⟩, ⟨c4, c5, c6, c7⟩⟩ := hN.eight
  obtain ⟨⟨f0, f1, f2, f3⟩, ⟨f4, f5, f6, f7⟩⟩ := hW.eight
  have z0 := hL.lt
  have z1 := hM.lt
  have z2 := hN.lt
  have z3 := hW.lt
  have HW : Hid (∀ o, Below w.heap.size w (w3.alloc o)) := fun o => below_al hw3 o
  clear hL hM hN hW hw3
  have q0 := eql_keys true d0 true d1 false 0 t3 d3
  have q1 := eql_key true 0 true 0
  rw [show decide ((true, (0 : Int)) = (true, 0)) = true from rfl] at q1
  have qg := eqGuard_keys
  have qh := eqGuard_key
  go_wp2
  go_ret
  exact ⟨rfl, HW.out _⟩

set_option maxHeartbeats 3200000 in
theorem keysBack_3 (d0 d1 d2 d3 : Int) (w : World) :
    Calls Try.prog 7 #[kv (true, d0, true, d1, true, d2, false, d3)] w fun e w' => e = .returned (.bool true) ∧ Below w.heap.size w w' := by
  have H1 : Hid (∀ w1, Calls Try.prog 19 #[kv (true, d0, true, d1, true, d2, false, d3)] w1 fun e w' => e = .returned (kneV (true, d0, true, d1, true, d2, true, 0) 3 0) ∧ Below w1.heap.size w1 w') := fun w1 => new_3  d0 d1 d2 d3 w1
  have H2 : Hid (∀ w1, Calls Try.prog 21 #[kv (true, d0, true, d1, true, d2, true, 0), .int .i64 3] w1 fun e w' => e = .returned (.tuple #[.agg #[.bool true, .int .i64 d0, .bool true, .int .i64 d1, .bool true, .int .i64 d2, .bool false, .int .i64 0], .int .i64 0]) ∧ Below w1.heap.size w1 w') := fun w1 => by
    have h := free_any (true, d0, true, d1, true, d2, true, 0) 3 w1
    have hn : frL (true, d0, true, d1, true, d2, true, 0) 3 = (true, d0, true, d1, true, d2, false, 0) ∧ frE (true, d0, true, d1, true, d2, true, 0) 3 = 0 := by simp [frL, frE, tk, put, no8]
    rw [hn.1, hn.2] at h
    exact h
  have H3 : Hid (∀ w1, Calls Try.prog 21 #[kv (true, d0, true, d1, true, d2, false, d3), .int .i64 0] w1 fun e w' => e = .returned (.tuple #[.agg #[.bool false, .int .i64 0, .bool false, .int .i64 0, .bool false, .int .i64 0, .bool false, .int .i64 0], .int .i64 3]) ∧ Below w1.heap.size w1 w') := fun w1 => by
    have h := free_any (true, d0, true, d1, true, d2, false, d3) 0 w1
    have hn : frL (true, d0, true, d1, true, d2, false, d3) 0 = no8 ∧ frE (true, d0, true, d1, true, d2, false, d3) 0 = 3 := by simp [frL, frE]
    rw [hn.1, hn.2] at h
    exact h
  go_enter Try.func7, Try.ntmps7
  go_wp2_with fail
  refine (alive10_any _).mono ?_
  rintro e w0 ⟨rfl, hb0⟩
  have hw0 : Below w.heap.size w w0 := ((Below.refl _ _).alloc (Nat.le_refl _) _).trans (hb0.mono (by simp))
  have hL := own_one (xs := [_, _, _, _, _, _, _, _]) hb0
  clear hb0
  obtain ⟨⟨a0, a1, a2, a3⟩, ⟨a4, a5, a6, a7⟩⟩ := hL.eight
  have hz := hL.lt
  go_wp2_with fail
  refine (H1.out _).mono ?_
  rintro e w1 ⟨rfl, hb1⟩
  replace hL := hL.below hb1 hL.lt
  have hw1 := hw0.trans (hb1.mono hw0.size)
  clear hb1 hw0 hz a0 a1 a2 a3 a4 a5 a6 a7
  obtain ⟨⟨a0, a1, a2, a3⟩, ⟨a4, a5, a6, a7⟩⟩ := hL.eight
  have hz := hL.lt
  go_wp2_with fail
  refine (H2.out _).mono ?_
  rintro e w2 ⟨rfl, hb2⟩
  have hM := own_one (xs := [_, _, _, _, _, _, _, _]) hb2
  have hw2 : Below w.heap.size w w2 := (below_al hw1 _).trans (hb2.mono (below_al hw1 _).size)
  replace hL := (hL.alloc _).below hb2 (hL.alloc _).lt
  clear hb2 hw1 hz a0 a1 a2 a3 a4 a5 a6 a7
  obtain ⟨⟨a0, a1, a2, a3⟩, ⟨a4, a5, a6, a7⟩⟩ := hL.eight
  have hz := hL.lt
  have hzM := hM.lt
  go_wp2_with fail
  refine (H3.out _).mono ?_
  rintro e w3 ⟨rfl, hb3⟩
  have hNW := own_two (xs := [_, _, _, _, _, _, _, _]) (ys := [_, _, _, _, _, _, _, _]) hb3
  have hw3 : Below w.heap.size w w3 := (below_al (below_al hw2 _) _).trans (hb3.mono (below_al (below_al hw2 _) _).size)
  replace hL := ((hL.alloc _).alloc _).below hb3 ((hL.alloc _).alloc _).lt
  replace hM := ((hM.alloc _).alloc _).below hb3 ((hM.alloc _).alloc _).lt
  clear hb3 hw2 hz hzM a0 a1 a2 a3 a4 a5 a6 a7 H1 H2 H3
  obtain ⟨hN, hW⟩ := hNW
  obtain ⟨⟨a0, a1, a2, a3⟩, ⟨a4, a5, a6, a7⟩⟩ := hL.eight
  obtain ⟨⟨b0, b1, b2, b3⟩, ⟨b4, b5, b6, b7⟩⟩ := hM.eight
  obtain ⟨⟨c0, c1, c2, c3⟩, ⟨c4, c5, c6, c7⟩⟩ := hN.eight
  obtain ⟨⟨f0, f1, f2, f3⟩, ⟨f4, f5, f6, f7⟩⟩ := hW.eight
  have z0 := hL.lt
  have z1 := hM.lt
  have z2 := hN.lt
  have z3 := hW.lt
  have HW : Hid (∀ o, Below w.heap.size w (w3.alloc o)) := fun o => below_al hw3 o
  clear hL hM hN hW hw3
  have q0 := eql_keys true d0 true d1 true d2 false 0
  have q1 := eql_key true 0 true 0
  rw [show decide ((true, (0 : Int)) = (true, 0)) = true from rfl] at q1
  have qg := eqGuard_keys
  have qh := eqGuard_key
  go_wp2
  go_ret
  exact ⟨rfl, HW.out _⟩

set_option maxHeartbeats 3200000 in
theorem keysBack_4 (d0 d1 d2 d3 : Int) (w : World) :
    Calls Try.prog 7 #[kv (true, d0, true, d1, true, d2, true, d3)] w fun e w' => e = .returned (.bool true) ∧ Below w.heap.size w w' := by
  have H1 : Hid (∀ w1, Calls Try.prog 19 #[kv (true, d0, true, d1, true, d2, true, d3)] w1 fun e w' => e = .returned (kneV no8 0 4) ∧ Below w1.heap.size w1 w') := fun w1 => new_4  d0 d1 d2 d3 w1
  go_enter Try.func7, Try.ntmps7
  go_wp2_with fail
  refine (alive10_any _).mono ?_
  rintro e w0 ⟨rfl, hb0⟩
  have hw0 : Below w.heap.size w w0 := ((Below.refl _ _).alloc (Nat.le_refl _) _).trans (hb0.mono (by simp))
  have hL := own_one (xs := [_, _, _, _, _, _, _, _]) hb0
  clear hb0
  obtain ⟨⟨a0, a1, a2, a3⟩, ⟨a4, a5, a6, a7⟩⟩ := hL.eight
  have hz := hL.lt
  go_wp2_with fail
  refine (H1.out _).mono ?_
  rintro e w1 ⟨rfl, hb1⟩
  replace hL := hL.below hb1 hL.lt
  have hw1 := hw0.trans (hb1.mono hw0.size)
  clear hb1 hw0 hz a0 a1 a2 a3 a4 a5 a6 a7
  obtain ⟨⟨a0, a1, a2, a3⟩, ⟨a4, a5, a6, a7⟩⟩ := hL.eight
  have hz := hL.lt
  have HW : Hid (∀ o, Below w.heap.size w (w1.alloc o)) := fun o => below_al hw1 o
  clear hL hw1
  go_wp2_with fail
  go_loopw [24] (fun i wr => ∃ j : Nat, j ≤ 4 ∧ i = .int .i64 j ∧ Below w.heap.size w wr) (fun i _ => 4 - (intOf i).toNat)
  case atStart => exact ⟨0, by omega, rfl, HW.out _⟩
  case round =>
    clear HW a0 a1 a2 a3 a4 a5 a6 a7 hz
    obtain ⟨j, hj, rfl, hbel⟩ := hrel
    have hx0 : ∀ w : World, (Instr.index 45 (.agg #[.bool true, .int .i64 d0, .bool true, .int .i64 d1, .bool true, .int .i64 d2, .bool true, .int .i64 d3]) (.int .i64 0)).run Try.prog w = .ok (.agg #[.bool true, .int .i64 d0]) w := fun _ => by kernel_rfl
    have hx1 : ∀ w : World, (Instr.index 45 (.agg #[.bool true, .int .i64 d0, .bool true, .int .i64 d1, .bool true, .int .i64 d2, .bool true, .int .i64 d3]) (.int .i64 1)).run Try.prog w = .ok (.agg #[.bool true, .int .i64 d1]) w := fun _ => by kernel_rfl
    have hx2 : ∀ w : World, (Instr.index 45 (.agg #[.bool true, .int .i64 d0, .bool true, .int .i64 d1, .bool true, .int .i64 d2, .bool true, .int .i64 d3]) (.int .i64 2)).run Try.prog w = .ok (.agg #[.bool true, .int .i64 d2]) w := fun _ => by kernel_rfl
    have hx3 : ∀ w : World, (Instr.index 45 (.agg #[.bool true, .int .i64 d0, .bool true, .int .i64 d1, .bool true, .int .i64 d2, .bool true, .int .i64 d3]) (.int .i64 3)).run Try.prog w = .ok (.agg #[.bool true, .int .i64 d3]) w := fun _ => by kernel_rfl
    have HN : Hid (∀ o, Below w.heap.size w (wr.alloc o)) := fun o => hbel.alloc hbel.size _
    have hj4 : j = 0 ∨ j = 1 ∨ j = 2 ∨ j = 3 ∨ j = 4 := by omega
    clear hj
    rcases hj4 with rfl | rfl | rfl | rfl | rfl
    · go_wp2
      go_roundw
      case rel => exact ⟨1, by omega, rfl, HN.out _⟩
      case measure => simp [intOf]
    · go_wp2
      go_roundw
      case rel => exact ⟨2, by omega, rfl, HN.out _⟩
      case measure => simp [intOf]
    · go_wp2
      go_roundw
      case rel => exact ⟨3, by omega, rfl, HN.out _⟩
      case measure => simp [intOf]
    · go_wp2
      go_roundw
      case rel => exact ⟨4, by omega, rfl, HN.out _⟩
      case measure => simp [intOf]
    · go_wp2
      go_ret
      exact ⟨rfl, hbel⟩

theorem keysBack_any (t0 : Bool) (d0 : Int) (t1 : Bool) (d1 : Int) (t2 : Bool) (d2 : Int) (t3 : Bool) (d3 : Int) (w : World) :
    Calls Try.prog 7 #[keysV t0 d0 t1 d1 t2 d2 t3 d3] w fun e w' => e = .returned (.bool true) ∧ Below w.heap.size w w' := by
  cases t0
  · exact keysBack_0 t1 t2 t3 d0 d1 d2 d3 w
  cases t1
  · exact keysBack_1 t2 t3 d0 d1 d2 d3 w
  cases t2
  · exact keysBack_2 t3 d0 d1 d2 d3 w
  cases t3
  · exact keysBack_3 d0 d1 d2 d3 w
  · exact keysBack_4 d0 d1 d2 d3 w

end Go.Proofs.Ytggecjfmgppciaf

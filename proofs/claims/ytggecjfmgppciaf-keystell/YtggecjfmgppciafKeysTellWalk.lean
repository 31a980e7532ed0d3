/- keys.First, New, Free and Set answer what the document says: framewardenlaw.KeysTell returns true at all keys and all numbers. -/
import Derived.Test.YtggecjfmgppciafKeys3
import Derived.Test.YtggecjfmgppciafKeysRef2
namespace Go.Proofs.Ytggecjfmgppciaf
open Go.RowKit
set_option linter.unusedSimpArgs false
set_option linter.unusedVariables false

set_option maxHeartbeats 3200000 in
theorem keysTell_walk (l : K8) (k y : Int) (w : World) :
    Calls Try.prog 6 #[kv l, .int .i64 k, .int .i64 y] w fun e w' => e = .returned (.bool true) ∧ Below w.heap.size w w' := by
  have H1 : Hid (∀ w1, Calls Try.prog 19 #[kv l] w1 fun e w' => e = .returned (kneV (nwL l) (nwN l) (nwE l)) ∧ Below w1.heap.size w1 w') := fun w1 => new_any l w1
  have H2 : Hid (∀ w1, Calls Try.prog 20 #[kv l] w1 fun e w' => e = .returned (kneV (nwL l) (nwN l) (nwE l)) ∧ Below w1.heap.size w1 w') := fun w1 => jnew_any l w1
  have H3 : Hid (∀ w1, Calls Try.prog 21 #[kv l, .int .i64 k] w1 fun e w' => e = .returned (keV (frL l k) (frE l k)) ∧ Below w1.heap.size w1 w') := fun w1 => free_any l k w1
  have H4 : Hid (∀ w1, Calls Try.prog 22 #[kv l, .int .i64 k, .int .i64 1, .agg #[.bool false, .int .i64 0]] w1 fun e w' => e = .returned (keV (frL l k) (frE l k)) ∧ Below w1.heap.size w1 w') := fun w1 => by
    rw [(fr_ch l k).1, (fr_ch l k).2]
    exact jch_any l k 1 false 0 w1 (by omega)
  have H5 : Hid (∀ w1, Calls Try.prog 23 #[kv l, .int .i64 k, .int .i64 y] w1 fun e w' => e = .returned (keV (stL l k y) (stE l k y)) ∧ Below w1.heap.size w1 w') := fun w1 => set_any l k y w1
  have H6 : Hid (∀ w1, Calls Try.prog 22 #[kv l, .int .i64 k, .int .i64 0, .agg #[.bool true, .int .i64 y]] w1 fun e w' => e = .returned (keV (stL l k y) (stE l k y)) ∧ Below w1.heap.size w1 w') := fun w1 => by
    rw [(st_ch l k y).1, (st_ch l k y).2]
    exact jch_any l k 0 true y w1 (by omega)
  have HF : Hid (∀ w1, Calls Try.prog 24 #[] w1 fun e w' => e = .returned (.agg #[.bool true, .int .i64 0, .bool false, .int .i64 0, .bool false, .int .i64 0, .bool false, .int .i64 0]) ∧ Below w1.heap.size w1 w') := fun w1 => first_any w1
  generalize nwL l = A at *
  generalize nwN l = n at *
  generalize nwE l = e at *
  generalize frL l k = C at *
  generalize frE l k = g at *
  generalize stL l k y = U at *
  generalize stE l k y = i at *
  obtain ⟨t0, d0, t1, d1, t2, d2, t3, d3⟩ := l
  obtain ⟨m0, m1, m2, m3, m4, m5, m6, m7⟩ := A
  obtain ⟨n0, n1, n2, n3, n4, n5, n6, n7⟩ := C
  obtain ⟨o0, o1, o2, o3, o4, o5, o6, o7⟩ := U
  go_enter Try.func6, Try.ntmps6
  go_wp2_with fail
  refine (H1.out _).mono ?_
  rintro e w1 ⟨rfl, hb1⟩
  have hw1 : Below w.heap.size w w1 := ((Below.refl _ _).alloc (Nat.le_refl _) _).trans (hb1.mono (by simp))
  have hL := own_one (xs := [_, _, _, _, _, _, _, _]) hb1
  clear hb1
  obtain ⟨⟨a0, a1, a2, a3⟩, ⟨a4, a5, a6, a7⟩⟩ := hL.eight
  have hz := hL.lt
  go_wp2_with fail
  refine (H2.out _).mono ?_
  rintro e w2 ⟨rfl, hb⟩
  have hx2 := own_one (xs := [_, _, _, _, _, _, _, _]) hb
  have hw2 : Below w.heap.size w w2 := (below_al hw1 _).trans (hb.mono (below_al hw1 _).size)
  clear hw1 hz a0 a1 a2 a3 a4 a5 a6 a7
  replace hL := (hL.alloc _).below hb (hL.alloc _).lt
  clear hb
  obtain ⟨⟨a0, a1, a2, a3⟩, ⟨a4, a5, a6, a7⟩⟩ := hL.eight
  have hz := hL.lt
  go_wp2_with fail
  refine (H3.out _).mono ?_
  rintro e w3 ⟨rfl, hb⟩
  have hx3 := own_one (xs := [_, _, _, _, _, _, _, _]) hb
  have hw3 : Below w.heap.size w w3 := (below_al hw2 _).trans (hb.mono (below_al hw2 _).size)
  clear hw2 hz a0 a1 a2 a3 a4 a5 a6 a7
  replace hx2 := (hx2.alloc _).below hb (hx2.alloc _).lt
  replace hL := (hL.alloc _).below hb (hL.alloc _).lt
  clear hb
  obtain ⟨⟨a0, a1, a2, a3⟩, ⟨a4, a5, a6, a7⟩⟩ := hL.eight
  have hz := hL.lt
  go_wp2_with fail
  refine (H4.out _).mono ?_
  rintro e w4 ⟨rfl, hb⟩
  have hx4 := own_one (xs := [_, _, _, _, _, _, _, _]) hb
  have hw4 : Below w.heap.size w w4 := (below_al hw3 _).trans (hb.mono (below_al hw3 _).size)
  clear hw3 hz a0 a1 a2 a3 a4 a5 a6 a7
  replace hx2 := (hx2.alloc _).below hb (hx2.alloc _).lt
  replace hx3 := (hx3.alloc _).below hb (hx3.alloc _).lt
  replace hL := (hL.alloc _).below hb (hL.alloc _).lt
  clear hb
  obtain ⟨⟨a0, a1, a2, a3⟩, ⟨a4, a5, a6, a7⟩⟩ := hL.eight
  have hz := hL.lt
  go_wp2_with fail
  refine (H5.out _).mono ?_
  rintro e w5 ⟨rfl, hb⟩
  have hx5 := own_one (xs := [_, _, _, _, _, _, _, _]) hb
  have hw5 : Below w.heap.size w w5 := (below_al hw4 _).trans (hb.mono (below_al hw4 _).size)
  clear hw4 hz a0 a1 a2 a3 a4 a5 a6 a7
  replace hx2 := (hx2.alloc _).below hb (hx2.alloc _).lt
  replace hx3 := (hx3.alloc _).below hb (hx3.alloc _).lt
  replace hx4 := (hx4.alloc _).below hb (hx4.alloc _).lt
  replace hL := (hL.alloc _).below hb (hL.alloc _).lt
  clear hb
  obtain ⟨⟨a0, a1, a2, a3⟩, ⟨a4, a5, a6, a7⟩⟩ := hL.eight
  have hz := hL.lt
  go_wp2_with fail
  refine (H6.out _).mono ?_
  rintro e w6 ⟨rfl, hb⟩
  have hx6 := own_one (xs := [_, _, _, _, _, _, _, _]) hb
  have hw6 : Below w.heap.size w w6 := (below_al hw5 _).trans (hb.mono (below_al hw5 _).size)
  clear hw5 hz a0 a1 a2 a3 a4 a5 a6 a7
  replace hx2 := (hx2.alloc _).below hb (hx2.alloc _).lt
  replace hx3 := (hx3.alloc _).below hb (hx3.alloc _).lt
  replace hx4 := (hx4.alloc _).below hb (hx4.alloc _).lt
  replace hx5 := (hx5.alloc _).below hb (hx5.alloc _).lt
  replace hL := (hL.alloc _).below hb (hL.alloc _).lt
  clear hb
  obtain ⟨⟨a0, a1, a2, a3⟩, ⟨a4, a5, a6, a7⟩⟩ := hL.eight
  have hz := hL.lt
  clear hL hz a0 a1 a2 a3 a4 a5 a6 a7
  go_wp2_with fail
  refine (HF.out _).mono ?_
  rintro e w7 ⟨rfl, hb⟩
  have hx7 := own_one (xs := [_, _, _, _, _, _, _, _]) hb
  have hw7 : Below w.heap.size w w7 := (below_al hw6 _).trans (hb.mono (below_al hw6 _).size)
  replace hx2 := (hx2.alloc _).below hb (hx2.alloc _).lt
  replace hx3 := (hx3.alloc _).below hb (hx3.alloc _).lt
  replace hx4 := (hx4.alloc _).below hb (hx4.alloc _).lt
  replace hx5 := (hx5.alloc _).below hb (hx5.alloc _).lt
  replace hx6 := (hx6.alloc _).below hb (hx6.alloc _).lt
  clear hb hw6 H1 H2 H3 H4 H5 H6 HF
  obtain ⟨⟨a0, a1, a2, a3⟩, ⟨a4, a5, a6, a7⟩⟩ := hx2.eight
  have z0 := hx2.lt
  obtain ⟨⟨b0, b1, b2, b3⟩, ⟨b4, b5, b6, b7⟩⟩ := hx3.eight
  have z1 := hx3.lt
  obtain ⟨⟨c0, c1, c2, c3⟩, ⟨c4, c5, c6, c7⟩⟩ := hx4.eight
  have z2 := hx4.lt
  obtain ⟨⟨d0, d1, d2, d3⟩, ⟨d4, d5, d6, d7⟩⟩ := hx5.eight
  have z3 := hx5.lt
  obtain ⟨⟨f0, f1, f2, f3⟩, ⟨f4, f5, f6, f7⟩⟩ := hx6.eight
  have z4 := hx6.lt
  obtain ⟨⟨g0, g1, g2, g3⟩, ⟨g4, g5, g6, g7⟩⟩ := hx7.eight
  have z5 := hx7.lt
  clear hx2 hx3 hx4 hx5 hx6 hx7
  have q0 := eql_keys true 0 false 0 false 0 false 0
  have q1 := eql_keys m0 m1 m2 m3 m4 m5 m6 m7
  have q2 := eql_keys n0 n1 n2 n3 n4 n5 n6 n7
  have q3 := eql_keys o0 o1 o2 o3 o4 o5 o6 o7
  have qg := eqGuard_keys
  go_wp2
  go_ret
  exact ⟨rfl, hw7⟩

theorem keysTell_any (t0 : Bool) (d0 : Int) (t1 : Bool) (d1 : Int) (t2 : Bool) (d2 : Int) (t3 : Bool) (d3 : Int) (k y : Int) (w : World) (_ : (Lit.int .i64 k).wf = true) (_ : (Lit.int .i64 y).wf = true) :
    Calls Try.prog 6 #[keysV t0 d0 t1 d1 t2 d2 t3 d3, .int .i64 k, .int .i64 y] w fun e w' => e = .returned (.bool true) ∧ Below w.heap.size w w' :=
  keysTell_walk (t0, d0, t1, d1, t2, d2, t3, d3) k y w

end Go.Proofs.Ytggecjfmgppciaf

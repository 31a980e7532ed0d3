/- Keys do not know of each other: framewardenkeep.KeysApart returns true at all keys and all numbers. -/
import Derived.Test.YtggecjfmgppciafAlive10
namespace Go.Proofs.Ytggecjfmgppciaf
open Go.RowKit
set_option linter.unusedSimpArgs false
set_option linter.unusedVariables false

set_option maxHeartbeats 3200000 in
theorem keysApart_walk (l : K8) (a b x y : Int) (w : World) :
    Calls Try.prog 8 #[kv l, .int .i64 a, .int .i64 b, .int .i64 x, .int .i64 y] w fun e w' => e = .returned (.bool true) ∧ Below w.heap.size w w' := by
  have hap : Hid (stE l a x = 0 → stE (stL l a x) b y = 0 → stE l b y = 0 ∧ stE (stL l b y) a x = 0 ∧ tk l b = true ∧ dy (stL (stL l a x) b y) b = y ∧ (a ≠ b → stL (stL l a x) b y = stL (stL l b y) a x)) := fun h1 h2 => keys_apart h1 h2
  have H1 : Hid (∀ w1, Calls Try.prog 23 #[kv l, .int .i64 a, .int .i64 x] w1 fun e w' => e = .returned (keV (stL l a x) (stE l a x)) ∧ Below w1.heap.size w1 w') := fun w1 => set_any l a x w1
  have H2 : Hid (∀ w1, Calls Try.prog 23 #[kv (stL l a x), .int .i64 b, .int .i64 y] w1 fun e w' => e = .returned (keV (stL (stL l a x) b y) (stE (stL l a x) b y)) ∧ Below w1.heap.size w1 w') := fun w1 => set_any (stL l a x) b y w1
  have H3 : Hid (∀ w1, Calls Try.prog 23 #[kv l, .int .i64 b, .int .i64 y] w1 fun e w' => e = .returned (keV (stL l b y) (stE l b y)) ∧ Below w1.heap.size w1 w') := fun w1 => set_any l b y w1
  have H4 : Hid (∀ w1, Calls Try.prog 23 #[kv (stL l b y), .int .i64 a, .int .i64 x] w1 fun e w' => e = .returned (keV (stL (stL l b y) a x) (stE (stL l b y) a x)) ∧ Below w1.heap.size w1 w') := fun w1 => set_any (stL l b y) a x w1
  generalize stE (stL l a x) b y = e2 at *
  generalize stE (stL l b y) a x = e4 at *
  generalize stL (stL l a x) b y = N at *
  generalize stL (stL l b y) a x = P at *
  generalize stL l a x = M at *
  generalize stL l b y = O at *
  generalize stE l a x = e1 at *
  generalize stE l b y = e3 at *
  obtain ⟨t0, d0, t1, d1, t2, d2, t3, d3⟩ := l
  obtain ⟨m0, m1, m2, m3, m4, m5, m6, m7⟩ := M
  obtain ⟨n0, n1, n2, n3, n4, n5, n6, n7⟩ := N
  obtain ⟨o0, o1, o2, o3, o4, o5, o6, o7⟩ := O
  obtain ⟨p0, p1, p2, p3, p4, p5, p6, p7⟩ := P
  go_enter Try.func8, Try.ntmps8
  go_wp2_with fail
  refine (alive10_any _).mono ?_
  rintro e w0 ⟨rfl, hb0⟩
  have hw0 : Below w.heap.size w w0 := ((Below.refl _ _).alloc (Nat.le_refl _) _).trans (hb0.mono (by simp))
  have hA := own_one (xs := [_, _, _, _, _, _, _, _]) hb0
  clear hb0
  obtain ⟨⟨a0, a1, a2, a3⟩, ⟨a4, a5, a6, a7⟩⟩ := hA.eight
  have hz := hA.lt
  go_wp2_with fail
  refine (H1.out _).mono ?_
  rintro e w1 ⟨rfl, hb1⟩
  have hA1 := hA.below hb1 hA.lt
  have hw1 := hw0.trans (hb1.mono hw0.size)
  clear hb1 hw0 hA a0 a1 a2 a3 a4 a5 a6 a7 hz
  have hz := hA1.lt
  go_wp2_with fail
  refine (H2.out _).mono ?_
  rintro e w2 ⟨rfl, hb2⟩
  have hA2 := (hA1.alloc _).below hb2 (hA1.alloc _).lt
  have hw2 : Below w.heap.size w w2 := (below_al hw1 _).trans (hb2.mono (below_al hw1 _).size)
  clear hb2 hw1 hA1 hz
  obtain ⟨⟨a0, a1, a2, a3⟩, ⟨a4, a5, a6, a7⟩⟩ := hA2.eight
  have hz := hA2.lt
  go_wp2_with fail
  refine (H3.out _).mono ?_
  rintro e w3 ⟨rfl, hb3⟩
  have hN3 := own_one (xs := [_, _, _, _, _, _, _, _]) hb3
  have hw3 : Below w.heap.size w w3 := (below_al hw2 _).trans (hb3.mono (below_al hw2 _).size)
  clear hb3 hw2 hA2 hz a0 a1 a2 a3 a4 a5 a6 a7
  go_wp2_with fail
  refine (H4.out _).mono ?_
  rintro e w4 ⟨rfl, hb4⟩
  have hN4 := (hN3.alloc _).below hb4 (hN3.alloc _).lt
  have hw4 : Below w.heap.size w w4 := (below_al hw3 _).trans (hb4.mono (below_al hw3 _).size)
  clear hb4 hw3 hN3 H1 H2 H3 H4
  obtain ⟨⟨a0, a1, a2, a3⟩, ⟨a4, a5, a6, a7⟩⟩ := hN4.eight
  have hz := hN4.lt
  have HW : Hid (∀ o, Below w.heap.size w (w4.alloc o)) := fun o => below_al hw4 o
  clear hw4 hN4
  by_cases h1 : e1 = 0
  · by_cases h2 : e2 = 0
    · obtain ⟨h3, h4, hb, hdy, hne⟩ := hap.out h1 h2
      clear hap
      subst h1 h2 h3 h4
      by_cases hab : a = b
      · clear hne
        subst hab
        rcases tk_key hb with rfl | rfl | rfl | rfl
        all_goals
          simp [dy] at hdy
          subst hdy
          clear hb
          go_wp2
          go_ret
          exact ⟨rfl, HW.out _⟩
      · have hnp := hne hab
        clear hne hb hdy
        simp only [Prod.mk.injEq] at hnp
        obtain ⟨rfl, rfl, rfl, rfl, rfl, rfl, rfl, rfl⟩ := hnp
        have hq := eql_keys n0 n1 n2 n3 n4 n5 n6 n7
        have hg := eqGuard_keys
        have hx1 : (a == b) = false := by simp [hab]
        have hx2 : (a != b) = true := by simp [hab]
        clear hab
        go_wp2
        go_ret
        exact ⟨rfl, HW.out _⟩
    · have hx1 : (e1 != 0) = false := by simp [h1]
      have hx2 : (e2 != 0) = true := by simp [h2]
      clear hap h1 h2
      go_wp2
      go_ret
      exact ⟨rfl, HW.out _⟩
  · have hx1 : (e1 != 0) = true := by simp [h1]
    clear hap h1
    go_wp2
    go_ret
    exact ⟨rfl, HW.out _⟩

theorem keysApart_any (t0 : Bool) (d0 : Int) (t1 : Bool) (d1 : Int) (t2 : Bool) (d2 : Int) (t3 : Bool) (d3 : Int) (a b x y : Int) (w : World) (_ : (Lit.int .i64 a).wf = true) (_ : (Lit.int .i64 b).wf = true) (_ : (Lit.int .i64 x).wf = true) (_ : (Lit.int .i64 y).wf = true) :
    Calls Try.prog 8 #[keysV t0 d0 t1 d1 t2 d2 t3 d3, .int .i64 a, .int .i64 b, .int .i64 x, .int .i64 y] w fun e w' => e = .returned (.bool true) ∧ Below w.heap.size w w' :=
  keysApart_walk (t0, d0, t1, d1, t2, d2, t3, d3) a b x y w

end Go.Proofs.Ytggecjfmgppciaf

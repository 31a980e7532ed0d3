/- So many at once is one behind the other: framewardenkeep.TagsParts returns true at every slice of bytes within the form's own reach and at all numbers. -/
import Derived.Test.YtocempcoddahiabTagsBackWalk
namespace Go.Proofs.Ytocempcoddahiab
open Go.RowKit

set_option maxHeartbeats 400000 in
theorem tagsParts_out (v : Value) (p a b t : Int) (w : World) (h : a < 0 ∨ b < 0 ∨ 1000 < a ∨ 1000 < b) :
    Calls Try.prog 6 #[v, .int .i64 p, .int .i64 a, .int .i64 b, .int .i64 t] w fun e w' => e = .returned (.bool true) ∧ Below w.heap.size w w' := by
  go_enter Try.func6, Try.ntmps6
  go_wp2_with fail
  refine (alive3_any w).mono ?_
  rintro e w1 ⟨rfl, hbel1⟩
  by_cases h1 : a < 0
  · clear h
    go_wp2
    go_ret
    exact ⟨rfl, hbel1⟩
  by_cases h2 : b < 0
  · clear h
    go_wp2
    go_ret
    exact ⟨rfl, hbel1⟩
  by_cases h3 : 1000 < a
  · clear h
    go_wp2
    go_ret
    exact ⟨rfl, hbel1⟩
  have h4 : 1000 < b := by omega
  clear h
  go_wp2
  go_ret
  exact ⟨rfl, hbel1⟩

set_option maxHeartbeats 400000 in
theorem tagsParts_ok (v : Value) (zs : List Int) (p a b : Nat) (t : Int) (w : World) (h : IsBytes w v zs) (ha : a ≤ 1000) (hb : b ≤ 1000) (hok : tokB zs.length p ((a : Int) + b) t = true) :
    Calls Try.prog 6 #[v, .int .i64 p, .int .i64 a, .int .i64 b, .int .i64 t] w fun e w' => e = .returned (.bool true) ∧ Below w.heap.size w w' := by
  obtain ⟨g1, g2, g3, g4, g5⟩ := tokB_iff.1 hok
  have hzl : zs.length ≤ 140737488351232 := by obtain ⟨_, _, _, _, hl, _⟩ := h; exact hl
  have ok1 : tokB zs.length p a t = true := tokB_iff.2 (by omega)
  have hl1 : (setK zs p t a).length = zs.length := length_setK _ _ _ _
  have ok2 : tokB (setK zs p t a).length ((p : Int) + a) b t = true := tokB_iff.2 (by omega)
  have hadd := setK_add zs p t a b
  go_enter Try.func6, Try.ntmps6
  go_wp2_with fail
  refine (alive3_any w).mono ?_
  rintro e w1 ⟨rfl, hbel1⟩
  have h1 := h.below hbel1
  go_wp2_with fail
  refine (tset_any v zs p ((a : Int) + b) t w1 h1 (by omega)).mono ?_
  rintro e w2 ⟨x, rfl, hx, hbel2⟩
  rw [tsetE_ok hok]
  rw [tsetV_ok hok, Int.toNat_natCast, show ((a : Int) + b).toNat = a + b from by omega, hadd] at hx
  have h2 := h1.below hbel2
  go_wp2_with fail
  refine (tset_any v zs p a t w2 h2 (by omega)).mono ?_
  rintro e w3 ⟨y, rfl, hy, hbel3⟩
  rw [tsetE_ok ok1]
  rw [tsetV_ok ok1, Int.toNat_natCast, Int.toNat_natCast] at hy
  have hx3 := hx.below hbel3
  go_wp2_with fail
  refine (tset_any y (setK zs p t a) ((p : Int) + a) b t w3 hy (by omega)).mono ?_
  rintro e w4 ⟨z, rfl, hz, hbel4⟩
  rw [tsetE_ok ok2]
  rw [tsetV_ok ok2, Int.toNat_natCast, show ((p : Int) + a).toNat = p + a from by omega] at hz
  have hB : Below w.heap.size w w4 := ((hbel1.trans (hbel2.mono hbel1.size)).trans (hbel3.mono (by have := hbel1.size; have := hbel2.size; omega))).trans (hbel4.mono (by have := hbel1.size; have := hbel2.size; have := hbel3.size; omega))
  have s1 := str_of (hx3.below hbel4)
  have s2 := str_of hz
  clear hadd hz hx3 hx hy h1 h2 h ok1 ok2 hok hl1
  generalize strOfNums (setK (setK zs p t a) (p + a) t b) = Z at *
  go_wp2
  go_ret
  exact ⟨rfl, hB⟩

set_option maxHeartbeats 400000 in
theorem tagsParts_bad (v : Value) (zs : List Int) (p : Int) (a b : Nat) (t : Int) (w : World) (h : IsBytes w v zs) (ha : a ≤ 1000) (hb : b ≤ 1000) (hp : p ≤ 9223372036854775807) (hp0 : -9223372036854775808 ≤ p) (hno : tokB zs.length p ((a : Int) + b) t = false) :
    Calls Try.prog 6 #[v, .int .i64 p, .int .i64 a, .int .i64 b, .int .i64 t] w fun e w' => e = .returned (.bool true) ∧ Below w.heap.size w w' := by
  have hzl : zs.length ≤ 140737488351232 := by obtain ⟨_, _, _, _, hl, _⟩ := h; exact hl
  have hno' : ¬ (0 ≤ t ∧ t ≤ 15 ∧ 0 ≤ (a : Int) + b ∧ 0 ≤ p ∧ p + ((a : Int) + b) ≤ 2 * zs.length) := by rw [← tokB_iff, hno]; simp
  by_cases h1 : tokB zs.length p a t = true
  · obtain ⟨g1, g2, g3, g4, g5⟩ := tokB_iff.1 h1
    obtain ⟨P, rfl⟩ := Int.eq_ofNat_of_zero_le g4
    have hl1 : (setK zs P t a).length = zs.length := length_setK _ _ _ _
    have no2 : tokB (setK zs P t a).length ((P : Int) + a) b t = false := by rw [Bool.eq_false_iff, ne_eq, tokB_iff]; omega
    go_enter Try.func6, Try.ntmps6
    go_wp2_with fail
    refine (alive3_any w).mono ?_
    rintro e w1 ⟨rfl, hbel1⟩
    have q1 := h.below hbel1
    go_wp2_with fail
    refine (tset_any v zs P ((a : Int) + b) t w1 q1 (by omega)).mono ?_
    rintro e w2 ⟨x, rfl, hx, hbel2⟩
    rw [tsetE_bad hno]
    have q2 := q1.below hbel2
    go_wp2_with fail
    refine (tset_any v zs P a t w2 q2 (by omega)).mono ?_
    rintro e w3 ⟨y, rfl, hy, hbel3⟩
    rw [tsetE_ok h1]
    rw [tsetV_ok h1, Int.toNat_natCast, Int.toNat_natCast] at hy
    go_wp2_with fail
    refine (tset_any y (setK zs P t a) ((P : Int) + a) b t w3 hy (by omega)).mono ?_
    rintro e w4 ⟨z, rfl, hz, hbel4⟩
    rw [tsetE_bad no2]
    have hB : Below w.heap.size w w4 := ((hbel1.trans (hbel2.mono hbel1.size)).trans (hbel3.mono (by have := hbel1.size; have := hbel2.size; omega))).trans (hbel4.mono (by have := hbel1.size; have := hbel2.size; have := hbel3.size; omega))
    clear hz hx hy q1 q2 h no2 h1 hl1 hno hno'
    go_wp2
    go_ret
    exact ⟨rfl, hB⟩
  · have no1 : tokB zs.length p a t = false := by simpa using h1
    clear h1 hno'
    go_enter Try.func6, Try.ntmps6
    go_wp2_with fail
    refine (alive3_any w).mono ?_
    rintro e w1 ⟨rfl, hbel1⟩
    have q1 := h.below hbel1
    go_wp2_with fail
    refine (tset_any v zs p ((a : Int) + b) t w1 q1 (by omega)).mono ?_
    rintro e w2 ⟨x, rfl, hx, hbel2⟩
    rw [tsetE_bad hno]
    have q2 := q1.below hbel2
    go_wp2_with fail
    refine (tset_any v zs p a t w2 q2 (by omega)).mono ?_
    rintro e w3 ⟨y, rfl, hy, hbel3⟩
    rw [tsetE_bad no1]
    go_wp2_with fail
    refine (tset_any y _ _ b t w3 hy (by omega)).mono ?_
    rintro e w4 ⟨z, rfl, hz, hbel4⟩
    have hB : Below w.heap.size w w4 := ((hbel1.trans (hbel2.mono hbel1.size)).trans (hbel3.mono (by have := hbel1.size; have := hbel2.size; omega))).trans (hbel4.mono (by have := hbel1.size; have := hbel2.size; have := hbel3.size; omega))
    clear hz hx hy q1 q2 h no1 hno
    go_wp2
    go_ret
    exact ⟨rfl, hB⟩

theorem tagsParts_walk (v : Value) (zs : List Int) (p a b t : Int) (w : World) (h : IsBytes w v zs) (hp : (Lit.int .i64 p).wf = true) (_ : (Lit.int .i64 a).wf = true) (_ : (Lit.int .i64 b).wf = true) (_ : (Lit.int .i64 t).wf = true) :
    Calls Try.prog 6 #[v, .int .i64 p, .int .i64 a, .int .i64 b, .int .i64 t] w fun e w' => e = .returned (.bool true) ∧ Below w.heap.size w w' := by
  have hp' := bounds_i64 hp
  by_cases ho : a < 0 ∨ b < 0 ∨ 1000 < a ∨ 1000 < b
  · exact tagsParts_out v p a b t w ho
  obtain ⟨A, rfl⟩ := Int.eq_ofNat_of_zero_le (show 0 ≤ a by omega)
  obtain ⟨B, rfl⟩ := Int.eq_ofNat_of_zero_le (show 0 ≤ b by omega)
  by_cases hok : tokB zs.length p ((A : Int) + B) t = true
  · obtain ⟨g1, g2, g3, g4, g5⟩ := tokB_iff.1 hok
    obtain ⟨P, rfl⟩ := Int.eq_ofNat_of_zero_le g4
    exact tagsParts_ok v zs P A B t w h (by omega) (by omega) hok
  · exact tagsParts_bad v zs p A B t w h (by omega) (by omega) hp'.2 hp'.1 (by simpa using hok)
end Go.Proofs.Ytocempcoddahiab

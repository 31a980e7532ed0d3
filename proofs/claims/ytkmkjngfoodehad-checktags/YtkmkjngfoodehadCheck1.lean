/- The contracts of check.has, isWay, denied, Wrong, Page and Tags over the loaded program: what each call returns, and that nothing that was there is written. -/
import Derived.Test.YtkmkjngfoodehadRows
import Derived.Test.YtkmkjngfoodehadKit
import Derived.WalkKit
import Derived.WalkLawsBesides
import Derived.WalkSpells
import Derived.Below
import Derived.OpenShut
import Derived.Test.YtkmkjngfoodehadCalm
import Derived.Test.YtkmkjngfoodehadInts
import Derived.Test.YtkmkjngfoodehadCheckMath
import Derived.Test.YtkmkjngfoodehadCheckOpen
namespace Go.Proofs.Ytkmkjngfoodehad
open Go.RowKit
set_option linter.unusedSimpArgs false
set_option linter.unusedVariables false

set_option maxHeartbeats 400000 in
theorem chas_any (s r : Int) (w : World) :
    Calls Try.prog 26 #[.int .i64 s, .int .i64 r] w fun e w' => e = .returned (.bool (hs s r)) ∧ w = w' := by
  go_enter Try.func26, Try.ntmps26
  go_wp2
  go_ret
  refine ⟨ret_bool ?_, rfl⟩
  unfold hs
  rw [Bool.eq_iff_iff]
  simp

def iw (y : Int) : Bool := decide (y = 1) || decide (y = 2) || decide (y = 4)

theorem iw_iff {y : Int} : iw y = true ↔ way3 y := by
  unfold iw way3
  simp only [Bool.or_eq_true, decide_eq_true_eq, or_assoc]

set_option maxHeartbeats 400000 in
theorem isWay_any (y : Int) (w : World) :
    Calls Try.prog 27 #[.int .i64 y] w fun e w' => e = .returned (.bool (iw y)) ∧ w = w' := by
  go_enter Try.func27, Try.ntmps27
  go_wp2
  all_goals
    go_ret
    refine ⟨ret_bool ?_, rfl⟩
    unfold iw
    rw [Bool.eq_iff_iff]
    simp_all

/-- What is wrong with rights. -/
def wrg (r : Int) : Int := if r < 0 ∨ 7 < r then 2 else if hs r 2 = true ∧ hs r 4 = true then 6 else 0

set_option maxHeartbeats 400000 in
theorem wrong_any (r : Int) (w : World) :
    Calls Try.prog 19 #[.int .i64 r] w fun e w' => e = .returned (.int .i64 (wrg r)) ∧ w = w' := by
  by_cases h0 : r < 0
  · have hw : wrg r = 2 := by unfold wrg; rw [if_pos (Or.inl h0)]
    rw [hw]
    clear hw
    go_enter Try.func19, Try.ntmps19
    go_wp2
    go_ret
    exact ⟨rfl, rfl⟩
  by_cases h7 : 7 < r
  · have hw : wrg r = 2 := by unfold wrg; rw [if_pos (Or.inr h7)]
    rw [hw]
    clear hw
    go_enter Try.func19, Try.ntmps19
    go_wp2
    go_ret
    exact ⟨rfl, rfl⟩
  have hw : Hid (wrg r = if hs r 2 = true ∧ hs r 4 = true then 6 else 0) := by show _ = _; unfold wrg; rw [if_neg (by omega)]
  generalize wrg r = W at *
  cases hA : hs r 2 <;> cases hB : hs r 4
  all_goals
    have hw2 := hw.out
    rw [hA, hB] at hw2
    simp at hw2
    subst hw2
    clear hw
    go_enter Try.func19, Try.ntmps19
    go_wp2_with (go_at_call 26; refine (chas_any _ _ _).mono ?_; rintro e w' ⟨rfl, rfl⟩)
    go_ret
    exact ⟨rfl, rfl⟩

/-- What a key denies. -/
def dk (d0 d1 d2 d3 k : Int) : Int := if k = 0 then d0 else if k = 1 then d1 else if k = 2 then d2 else d3

/-- Whether a key denies a way. -/
def dn (d0 d1 d2 d3 k y : Int) : Bool := if k < 0 ∨ 3 < k then true else hs (dk d0 d1 d2 d3 k) y

set_option maxHeartbeats 800000 in
theorem denied_any (t0 : Bool) (d0 : Int) (t1 : Bool) (d1 : Int) (t2 : Bool) (d2 : Int) (t3 : Bool) (d3 : Int) (k y : Int) (w : World) :
    Calls Try.prog 28 #[keysV t0 d0 t1 d1 t2 d2 t3 d3, .int .i64 k, .int .i64 y] w fun e w' => e = .returned (.bool (dn d0 d1 d2 d3 k y)) ∧ Below w.heap.size w w' := by
  have hbe : Hid (∀ o, Below w.heap.size w (w.alloc o)) := fun o => (Below.refl _ _).alloc (Nat.le_refl _) _
  by_cases h0 : k < 0
  · have hw : dn d0 d1 d2 d3 k y = true := by unfold dn; rw [if_pos (Or.inl h0)]
    rw [hw]
    clear hw
    go_enter Try.func28, Try.ntmps28
    go_wp2
    go_ret
    exact ⟨rfl, hbe.out _⟩
  by_cases h3 : 3 < k
  · have hw : dn d0 d1 d2 d3 k y = true := by unfold dn; rw [if_pos (Or.inr h3)]
    rw [hw]
    clear hw
    go_enter Try.func28, Try.ntmps28
    go_wp2
    go_ret
    exact ⟨rfl, hbe.out _⟩
  have hk : k = 0 ∨ k = 1 ∨ k = 2 ∨ k = 3 := by omega
  clear h0 h3
  rcases hk with rfl | rfl | rfl | rfl
  all_goals
    go_enter Try.func28, Try.ntmps28
    go_wp2_with (go_at_call 26; refine (chas_any _ _ _).mono ?_; rintro e w' ⟨rfl, rfl⟩)
    go_ret
    exact ⟨rfl, hbe.out _⟩

/-- The fault of looking. -/
def pg (r k d0 d1 d2 d3 y : Int) : Int := if iw y = false ∨ hs r y = false then 2 else if y ≠ 4 ∧ dn d0 d1 d2 d3 k y = true then 3 else 0

set_option maxHeartbeats 800000 in
theorem page_any (r k : Int) (t s : Bool) (t0 : Bool) (d0 : Int) (t1 : Bool) (d1 : Int) (t2 : Bool) (d2 : Int) (t3 : Bool) (d3 : Int) (y : Int) (w : World) :
    Calls Try.prog 21 #[.agg #[.int .i64 r, .int .i64 k, .bool t, .bool s], keysV t0 d0 t1 d1 t2 d2 t3 d3, .int .i64 y] w fun e w' => e = .returned (.int .i64 (pg r k d0 d1 d2 d3 y)) ∧ Below w.heap.size w w' := by
  have hP : Hid (pg r k d0 d1 d2 d3 y = if iw y = false ∨ hs r y = false then 2 else if y ≠ 4 ∧ dn d0 d1 d2 d3 k y = true then 3 else 0) := rfl
  have HI : Hid (∀ w1, Calls Try.prog 27 #[.int .i64 y] w1 fun e w' => e = .returned (.bool (iw y)) ∧ w1 = w') := fun w1 => isWay_any y w1
  have HH : Hid (∀ w1, Calls Try.prog 26 #[.int .i64 r, .int .i64 y] w1 fun e w' => e = .returned (.bool (hs r y)) ∧ w1 = w') := fun w1 => chas_any r y w1
  have HD : Hid (∀ w1, Calls Try.prog 28 #[keysV t0 d0 t1 d1 t2 d2 t3 d3, .int .i64 k, .int .i64 y] w1 fun e w' => e = .returned (.bool (dn d0 d1 d2 d3 k y)) ∧ Below w1.heap.size w1 w') := fun w1 => denied_any t0 d0 t1 d1 t2 d2 t3 d3 k y w1
  have hbe : Hid (∀ o1 o2, Below w.heap.size w ((w.alloc o1).alloc o2)) := fun o1 o2 => ((Below.refl _ _).alloc (Nat.le_refl _) _).alloc (by simp) _
  generalize pg r k d0 d1 d2 d3 y = P at *
  generalize iw y = A at *
  generalize hs r y = B at *
  generalize dn d0 d1 d2 d3 k y = D at *
  cases A
  · obtain rfl : P = 2 := by rw [hP.out]; simp
    go_enter Try.func21, Try.ntmps21
    go_wp2_with (go_at_call 27; refine (HI.out _).mono ?_; rintro e w' ⟨rfl, rfl⟩)
    go_ret
    exact ⟨rfl, hbe.out _ _⟩
  cases B
  · obtain rfl : P = 2 := by rw [hP.out]; simp
    go_enter Try.func21, Try.ntmps21
    go_wp2_with (first | (go_at_call 27; refine (HI.out _).mono ?_; rintro e w' ⟨rfl, rfl⟩) | (go_at_call 26; refine (HH.out _).mono ?_; rintro e w' ⟨rfl, rfl⟩))
    go_ret
    exact ⟨rfl, hbe.out _ _⟩
  by_cases h4 : y = 4
  · obtain rfl : P = 0 := by rw [hP.out]; simp [h4]
    clear hP
    subst h4
    go_enter Try.func21, Try.ntmps21
    go_wp2_with (first | (go_at_call 27; refine (HI.out _).mono ?_; rintro e w' ⟨rfl, rfl⟩) | (go_at_call 26; refine (HH.out _).mono ?_; rintro e w' ⟨rfl, rfl⟩))
    go_ret
    exact ⟨rfl, hbe.out _ _⟩
  have hy : (y != 4) = true := by simp [h4]
  cases D
  · obtain rfl : P = 0 := by rw [hP.out]; simp
    clear hP
    go_enter Try.func21, Try.ntmps21
    go_wp2_with (first | (go_at_call 27; refine (HI.out _).mono ?_; rintro e w' ⟨rfl, rfl⟩) | (go_at_call 26; refine (HH.out _).mono ?_; rintro e w' ⟨rfl, rfl⟩) | (go_at_call 28; refine (HD.out _).mono ?_; rintro e w2 ⟨rfl, hw2⟩))
    go_ret
    exact ⟨rfl, (hbe.out _ _).trans (hw2.mono (by simp; omega))⟩
  · obtain rfl : P = 3 := by rw [hP.out]; simp [h4]
    clear hP
    go_enter Try.func21, Try.ntmps21
    go_wp2_with (first | (go_at_call 27; refine (HI.out _).mono ?_; rintro e w' ⟨rfl, rfl⟩) | (go_at_call 26; refine (HH.out _).mono ?_; rintro e w' ⟨rfl, rfl⟩) | (go_at_call 28; refine (HD.out _).mono ?_; rintro e w2 ⟨rfl, hw2⟩))
    go_ret
    exact ⟨rfl, (hbe.out _ _).trans (hw2.mono (by simp; omega))⟩

end Go.Proofs.Ytkmkjngfoodehad

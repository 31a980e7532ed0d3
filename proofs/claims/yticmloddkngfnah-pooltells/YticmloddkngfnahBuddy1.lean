/- The contracts of package buddy's small functions (isOrder, size, end, isBlock, areBuddies, follows, joined) over the loaded program: what each call returns, and that nothing that was there is written. -/
import Derived.Test.YticmloddkngfnahRows
import Derived.Test.YticmloddkngfnahKit
import Derived.WalkKit
import Derived.WalkLawsBesides
import Derived.WalkSpells
import Derived.Below
import Derived.OpenShut
import Derived.Test.YticmloddkngfnahCalm
namespace Go.Proofs.Yticmloddkngfnah
open Go.RowKit

/-- Whether a number is an order. -/
def isOrd (y : Int) : Bool := decide (0 ≤ y ∧ y ≤ 6)
/-- How many frames a block of that order has. -/
def sz (y : Int) : Int := 2 ^ y.toNat

theorem ord_cases {y : Int} (h0 : 0 ≤ y) (h6 : y ≤ 6) : y = 0 ∨ y = 1 ∨ y = 2 ∨ y = 3 ∨ y = 4 ∨ y = 5 ∨ y = 6 := by omega

theorem sz_bd {y : Int} (h0 : 0 ≤ y) (h6 : y ≤ 6) : 1 ≤ sz y ∧ sz y ≤ 64 := by
  rcases ord_cases h0 h6 with rfl | rfl | rfl | rfl | rfl | rfl | rfl <;> decide

set_option maxHeartbeats 400000 in
theorem isOrder_any (y : Int) (w : World) :
    Calls Try.prog 29 #[.int .i64 y] w fun e w' => e = .returned (.bool (isOrd y)) ∧ w = w' := by
  go_enter Try.func29, Try.ntmps29
  go_wp2
  all_goals
    go_ret
    refine ⟨ret_bool ?_, rfl⟩
    unfold isOrd
    first
      | (rw [decide_eq_decide]; omega)
      | (symm; rw [decide_eq_false_iff_not]; omega)

set_option maxHeartbeats 400000 in
theorem size_any (x y : Int) (w : World) (h0 : 0 ≤ y) (h6 : y ≤ 6) :
    Calls Try.prog 43 #[.agg #[.int .i64 x, .int .i64 y]] w fun e w' => e = .returned (.int .i64 (sz y)) ∧ Below w.heap.size w w' := by
  have hs : Hid (wrap64 (2 ^ y.toNat) = sz y) := by
    show _ = _
    rcases ord_cases h0 h6 with rfl | rfl | rfl | rfl | rfl | rfl | rfl <;> simp [sz, wrap64]
  go_enter Try.func43, Try.ntmps43
  go_wp2
  go_ret
  exact ⟨ret_int hs.out, (Below.refl _ _).alloc (Nat.le_refl _) _⟩

theorem isOrder_is {b : Bool} (y : Int) (w : World) (h : isOrd y = b) :
    Calls Try.prog 29 #[.int .i64 y] w fun e w' => e = .returned (.bool b) ∧ w = w' := h ▸ isOrder_any y w

set_option maxHeartbeats 400000 in
theorem end_any (x y : Int) (w : World) (h0 : 0 ≤ y) (h6 : y ≤ 6) (hx0 : 0 ≤ x) (hx : x ≤ 64) :
    Calls Try.prog 44 #[.agg #[.int .i64 x, .int .i64 y]] w fun e w' => e = .returned (.int .i64 (x + sz y)) ∧ Below w.heap.size w w' := by
  have hs := sz_bd h0 h6
  go_enter Try.func44, Try.ntmps44
  go_wp2_with fail
  refine wp_region_calm (by kernel_rfl) (by kernel_rfl) (fun W hW _ => ?_)
  have hc0 : ∀ u : Wd W, u.w.cell? ⟨w.heap.size, 0, none⟩ = some (.int .i64 x) := fun u => u.cell (by rw [hW]; simp)
  have hc1 : ∀ u : Wd W, u.w.cell? ⟨w.heap.size, 1, none⟩ = some (.int .i64 y) := fun u => u.cell (by rw [hW]; simp)
  have hbW : Below w.heap.size w W := by rw [hW]; exact (Below.refl _ _).alloc (Nat.le_refl _) _
  clear hW
  repeat (go_big_quiet_step (first | (go_at_call 43; exact calm_of (size_any _ _ _ h0 h6))))
  refine wpQuiet_nil ?_
  rintro w2 ⟨⟨_, hw2⟩, rfl⟩
  go_wp2
  go_ret
  exact ⟨ret_int (rfl), hbW.trans (hw2.mono hbW.size)⟩

/-- Whether it is a block. -/
def isBlk (x y : Int) : Bool := decide (0 ≤ y ∧ y ≤ 6 ∧ 0 ≤ x ∧ x + sz y ≤ 64 ∧ x % sz y = 0)

theorem and_low {x y : Int} (h0 : 0 ≤ y) (h6 : y ≤ 6) (hx0 : 0 ≤ x) (hx : x < 64) : bits .and .i64 x (sz y - 1) = x % sz y := by
  obtain ⟨n, rfl⟩ : ∃ n : Nat, x = n := ⟨x.toNat, by omega⟩
  obtain ⟨m, rfl⟩ : ∃ m : Nat, y = m := ⟨y.toNat, by omega⟩
  have h : ∀ n : Fin 64, ∀ m : Fin 7, bits .and .i64 (n.val : Int) (sz (m.val : Int) - 1) = (n.val : Int) % sz (m.val : Int) := by decide +kernel
  exact h ⟨n, by omega⟩ ⟨m, by omega⟩

set_option maxHeartbeats 400000 in
theorem isBlock_any (x y : Int) (w : World) :
    Calls Try.prog 34 #[.agg #[.int .i64 x, .int .i64 y]] w fun e w' => e = .returned (.bool (isBlk x y)) ∧ Below w.heap.size w w' := by
  by_cases hy : 0 ≤ y ∧ y ≤ 6
  · obtain ⟨h0, h6⟩ := hy
    have ho : isOrd y = true := by simp [isOrd, h0, h6]
    have hs := sz_bd h0 h6
    by_cases hx0 : 0 ≤ x
    · by_cases hx1 : x ≤ 64 - sz y
      · have ha : Hid (bits .and .i64 x (sz y - 1) = x % sz y) := and_low h0 h6 hx0 (by omega)
        go_enter Try.func34, Try.ntmps34
        go_wp2_with fail
        refine wp_region_calm (by kernel_rfl) (by kernel_rfl) (fun W hW _ => ?_)
        have hc0 : ∀ u : Wd W, u.w.cell? ⟨w.heap.size, 0, none⟩ = some (.int .i64 x) := fun u => u.cell (by rw [hW]; simp)
        have hc1 : ∀ u : Wd W, u.w.cell? ⟨w.heap.size, 1, none⟩ = some (.int .i64 y) := fun u => u.cell (by rw [hW]; simp)
        have hbW : Below w.heap.size w W := by rw [hW]; exact (Below.refl _ _).alloc (Nat.le_refl _) _
        clear hW
        repeat (go_big_quiet_step (first | (go_at_call 29; exact calm_same (isOrder_is _ _ ho)) | (go_at_call 43; exact calm_of (size_any _ _ _ h0 h6))))
        refine wpQuiet_nil ?_
        rintro w2 ⟨⟨_, hw2⟩, rfl⟩
        go_wp2
        go_ret
        exact ⟨ret_bool (by rw [ha.out]; unfold isBlk; rw [Bool.eq_iff_iff]; simp only [beq_iff_eq, decide_eq_true_eq]; omega), hbW.trans (hw2.mono hbW.size)⟩
      · have hd1 : decide (x ≤ 64 - sz y) = false := by simpa using hx1
        go_enter Try.func34, Try.ntmps34
        go_wp2_with fail
        refine wp_region_calm (by kernel_rfl) (by kernel_rfl) (fun W hW _ => ?_)
        have hc0 : ∀ u : Wd W, u.w.cell? ⟨w.heap.size, 0, none⟩ = some (.int .i64 x) := fun u => u.cell (by rw [hW]; simp)
        have hc1 : ∀ u : Wd W, u.w.cell? ⟨w.heap.size, 1, none⟩ = some (.int .i64 y) := fun u => u.cell (by rw [hW]; simp)
        have hbW : Below w.heap.size w W := by rw [hW]; exact (Below.refl _ _).alloc (Nat.le_refl _) _
        clear hW
        repeat (go_big_quiet_step (first | (go_at_call 29; exact calm_same (isOrder_is _ _ ho)) | (go_at_call 43; exact calm_of (size_any _ _ _ h0 h6))))
        refine wpQuiet_nil ?_
        rintro w2 ⟨⟨_, hw2⟩, rfl⟩
        go_wp2
        go_ret
        exact ⟨ret_bool (by unfold isBlk; symm; rw [decide_eq_false_iff_not]; omega), hbW.trans (hw2.mono hbW.size)⟩
    · have hd0 : decide (x ≥ 0) = false := by simpa using hx0
      go_enter Try.func34, Try.ntmps34
      go_wp2_with fail
      refine wp_region_calm (by kernel_rfl) (by kernel_rfl) (fun W hW _ => ?_)
      have hc0 : ∀ u : Wd W, u.w.cell? ⟨w.heap.size, 0, none⟩ = some (.int .i64 x) := fun u => u.cell (by rw [hW]; simp)
      have hc1 : ∀ u : Wd W, u.w.cell? ⟨w.heap.size, 1, none⟩ = some (.int .i64 y) := fun u => u.cell (by rw [hW]; simp)
      have hbW : Below w.heap.size w W := by rw [hW]; exact (Below.refl _ _).alloc (Nat.le_refl _) _
      clear hW
      repeat (go_big_quiet_step (first | (go_at_call 29; exact calm_same (isOrder_is _ _ ho)) | (go_at_call 43; exact calm_of (size_any _ _ _ h0 h6))))
      refine wpQuiet_nil ?_
      rintro w2 ⟨⟨_, hw2⟩, rfl⟩
      go_wp2
      go_ret
      exact ⟨ret_bool (by unfold isBlk; symm; rw [decide_eq_false_iff_not]; omega), hbW.trans (hw2.mono hbW.size)⟩
  · have ho : isOrd y = false := by simp only [isOrd, decide_eq_false_iff_not]; exact hy
    go_enter Try.func34, Try.ntmps34
    go_wp2_with fail
    refine wp_region_calm (by kernel_rfl) (by kernel_rfl) (fun W hW _ => ?_)
    have hc0 : ∀ u : Wd W, u.w.cell? ⟨w.heap.size, 0, none⟩ = some (.int .i64 x) := fun u => u.cell (by rw [hW]; simp)
    have hc1 : ∀ u : Wd W, u.w.cell? ⟨w.heap.size, 1, none⟩ = some (.int .i64 y) := fun u => u.cell (by rw [hW]; simp)
    have hbW : Below w.heap.size w W := by rw [hW]; exact (Below.refl _ _).alloc (Nat.le_refl _) _
    clear hW
    repeat (go_big_quiet_step (first | (go_at_call 29; exact calm_same (isOrder_is _ _ ho))))
    refine wpQuiet_nil ?_
    rintro w2 ⟨⟨_, hw2⟩, rfl⟩
    go_wp2
    go_ret
    exact ⟨ret_bool (by unfold isBlk; symm; rw [decide_eq_false_iff_not]; omega), hbW.trans (hw2.mono hbW.size)⟩

/-- Whether two are buddies, as the program looks at it. -/
def areB (xa ya xb yb : Int) : Bool := ya == yb && bits .xor .i64 xa xb == sz ya

set_option maxHeartbeats 400000 in
theorem areBuddies_any (xa ya xb yb : Int) (w : World) (h0 : 0 ≤ ya) (h6 : ya ≤ 6) :
    Calls Try.prog 45 #[.agg #[.int .i64 xa, .int .i64 ya], .agg #[.int .i64 xb, .int .i64 yb]] w fun e w' => e = .returned (.bool (areB xa ya xb yb)) ∧ Below w.heap.size w w' := by
  by_cases hy : ya = yb
  · subst hy
    go_enter Try.func45, Try.ntmps45
    go_wp2_with fail
    refine wp_region_calm (by kernel_rfl) (by kernel_rfl) (fun W hW _ => ?_)
    have hc0 : ∀ u : Wd W, u.w.cell? ⟨w.heap.size, 0, none⟩ = some (.int .i64 xa) := fun u => u.cell (by rw [hW]; simp)
    have hc1 : ∀ u : Wd W, u.w.cell? ⟨w.heap.size, 1, none⟩ = some (.int .i64 ya) := fun u => u.cell (by rw [hW]; simp)
    have hc2 : ∀ u : Wd W, u.w.cell? ⟨w.heap.size + 1, 0, none⟩ = some (.int .i64 xb) := fun u => u.cell (by rw [hW]; simp)
    have hc3 : ∀ u : Wd W, u.w.cell? ⟨w.heap.size + 1, 1, none⟩ = some (.int .i64 ya) := fun u => u.cell (by rw [hW]; simp)
    have hbW : Below w.heap.size w W := by rw [hW]; exact ((Below.refl _ _).alloc (Nat.le_refl _) _).alloc (by simp) _
    clear hW
    repeat (go_big_quiet_step (first | (go_at_call 43; exact calm_of (size_any _ _ _ h0 h6))))
    refine wpQuiet_nil ?_
    rintro w2 ⟨⟨_, hw2⟩, rfl⟩
    go_wp2
    go_ret
    exact ⟨ret_bool (by simp [areB]), hbW.trans (hw2.mono hbW.size)⟩
  · have hd : (ya == yb) = false := by simpa using hy
    go_enter Try.func45, Try.ntmps45
    go_wp2_with fail
    refine wp_region_calm (by kernel_rfl) (by kernel_rfl) (fun W hW _ => ?_)
    have hc0 : ∀ u : Wd W, u.w.cell? ⟨w.heap.size, 0, none⟩ = some (.int .i64 xa) := fun u => u.cell (by rw [hW]; simp)
    have hc1 : ∀ u : Wd W, u.w.cell? ⟨w.heap.size, 1, none⟩ = some (.int .i64 ya) := fun u => u.cell (by rw [hW]; simp)
    have hc2 : ∀ u : Wd W, u.w.cell? ⟨w.heap.size + 1, 0, none⟩ = some (.int .i64 xb) := fun u => u.cell (by rw [hW]; simp)
    have hc3 : ∀ u : Wd W, u.w.cell? ⟨w.heap.size + 1, 1, none⟩ = some (.int .i64 yb) := fun u => u.cell (by rw [hW]; simp)
    have hbW : Below w.heap.size w W := by rw [hW]; exact ((Below.refl _ _).alloc (Nat.le_refl _) _).alloc (by simp) _
    clear hW
    repeat (go_big_quiet_step (fail))
    refine wpQuiet_nil ?_
    rintro w2 ⟨⟨_, hw2⟩, rfl⟩
    go_wp2
    go_ret
    exact ⟨ret_bool (by simp [areB, hd]), hbW.trans (hw2.mono hbW.size)⟩

/-- Whether the second may stand behind the first. -/
def fol (xa ya xb yb : Int) : Bool := decide (xa + sz ya ≤ xb) && !areB xa ya xb yb

set_option maxHeartbeats 400000 in
theorem follows_any (xa ya xb yb : Int) (w : World) (h0 : 0 ≤ ya) (h6 : ya ≤ 6) (hx0 : 0 ≤ xa) (hx : xa ≤ 64) :
    Calls Try.prog 41 #[.agg #[.int .i64 xa, .int .i64 ya], .agg #[.int .i64 xb, .int .i64 yb]] w fun e w' => e = .returned (.bool (fol xa ya xb yb)) ∧ Below w.heap.size w w' := by
  by_cases hy : xa + sz ya ≤ xb
  · have hd : decide (xa + sz ya ≤ xb) = true := by simpa using hy
    go_enter Try.func41, Try.ntmps41
    go_wp2_with fail
    refine wp_region_calm (by kernel_rfl) (by kernel_rfl) (fun W hW _ => ?_)
    have hc0 : ∀ u : Wd W, u.w.cell? ⟨w.heap.size, 0, none⟩ = some (.int .i64 xa) := fun u => u.cell (by rw [hW]; simp)
    have hc1 : ∀ u : Wd W, u.w.cell? ⟨w.heap.size, 1, none⟩ = some (.int .i64 ya) := fun u => u.cell (by rw [hW]; simp)
    have hc2 : ∀ u : Wd W, u.w.cell? ⟨w.heap.size + 1, 0, none⟩ = some (.int .i64 xb) := fun u => u.cell (by rw [hW]; simp)
    have hc3 : ∀ u : Wd W, u.w.cell? ⟨w.heap.size + 1, 1, none⟩ = some (.int .i64 yb) := fun u => u.cell (by rw [hW]; simp)
    have hbW : Below w.heap.size w W := by rw [hW]; exact ((Below.refl _ _).alloc (Nat.le_refl _) _).alloc (by simp) _
    clear hW
    repeat (go_big_quiet_step (first | (go_at_call 44; exact calm_of (end_any _ _ _ h0 h6 hx0 hx)) | (go_at_call 45; exact calm_of (areBuddies_any _ _ _ _ _ h0 h6))))
    refine wpQuiet_nil ?_
    rintro w2 ⟨⟨_, hw2⟩, rfl⟩
    go_wp2
    go_ret
    exact ⟨ret_bool (by simp [fol, hd]), hbW.trans (hw2.mono hbW.size)⟩
  · have hd : decide (xa + sz ya ≤ xb) = false := by simpa using hy
    go_enter Try.func41, Try.ntmps41
    go_wp2_with fail
    refine wp_region_calm (by kernel_rfl) (by kernel_rfl) (fun W hW _ => ?_)
    have hc0 : ∀ u : Wd W, u.w.cell? ⟨w.heap.size, 0, none⟩ = some (.int .i64 xa) := fun u => u.cell (by rw [hW]; simp)
    have hc1 : ∀ u : Wd W, u.w.cell? ⟨w.heap.size, 1, none⟩ = some (.int .i64 ya) := fun u => u.cell (by rw [hW]; simp)
    have hc2 : ∀ u : Wd W, u.w.cell? ⟨w.heap.size + 1, 0, none⟩ = some (.int .i64 xb) := fun u => u.cell (by rw [hW]; simp)
    have hc3 : ∀ u : Wd W, u.w.cell? ⟨w.heap.size + 1, 1, none⟩ = some (.int .i64 yb) := fun u => u.cell (by rw [hW]; simp)
    have hbW : Below w.heap.size w W := by rw [hW]; exact ((Below.refl _ _).alloc (Nat.le_refl _) _).alloc (by simp) _
    clear hW
    repeat (go_big_quiet_step (first | (go_at_call 44; exact calm_of (end_any _ _ _ h0 h6 hx0 hx))))
    refine wpQuiet_nil ?_
    rintro w2 ⟨⟨_, hw2⟩, rfl⟩
    go_wp2
    go_ret
    exact ⟨ret_bool (by simp [fol, hd]), hbW.trans (hw2.mono hbW.size)⟩

set_option maxHeartbeats 400000 in
theorem joined_any (xa ya xb yb : Int) (w : World) (h0 : 0 ≤ ya) (h6 : ya ≤ 6) :
    Calls Try.prog 37 #[.agg #[.int .i64 xa, .int .i64 ya], .agg #[.int .i64 xb, .int .i64 yb]] w fun e w' => e = .returned (.agg #[.int .i64 (min xa xb), .int .i64 (ya + 1)]) ∧ Below w.heap.size w w' := by
  go_enter Try.func37, Try.ntmps37
  go_wp2_with fail
  go_wp2
  · have hm : min xa xb = xb := by omega
    rw [hm]
    exact bodyPost_ret (v := .agg #[.int .i64 xb, .int .i64 (ya + 1)]) (by simp [results, Try.results37, go_sem]) rfl ⟨rfl, (((Below.refl _ _).alloc (Nat.le_refl _) _).alloc (by simp) _).alloc (by simp <;> omega) _⟩
  · have hm : min xa xb = xa := by omega
    rw [hm]
    exact bodyPost_ret (v := .agg #[.int .i64 xa, .int .i64 (ya + 1)]) (by simp [results, Try.results37, go_sem]) rfl ⟨rfl, (((Below.refl _ _).alloc (Nat.le_refl _) _).alloc (by simp) _).alloc (by simp <;> omega) _⟩

end Go.Proofs.Yticmloddkngfnah

/- The contracts of region.Turn, region.Seal and region.Guard. -/
import Derived.Test.YtkiamhmjkpbaiaeRegCTurn
import Derived.Test.YtkiamhmjkpbaiaeRegCSeal
import Derived.Test.YtkiamhmjkpbaiaeRegCGuard
namespace Go.Proofs.Ytkiamhmjkpbaiae
open Go.RowKit
set_option linter.unusedSimpArgs false
set_option linter.unusedVariables false

/-- What Turn, Seal and Guard make of what a page is like. -/
def tuA (a : A4) : A4 → A4 := fun _ => a
def seA : A4 → A4 := fun a => (a.1, a.2.1, a.2.2.1, true)
def guA (r k : Int) : A4 → A4 := fun a => (r, k, a.2.2.1, a.2.2.2)

set_option maxHeartbeats 400000 in
theorem turnc_any (B : Nat) (r k : Int) (g s : Bool) (x y : Int) (z u : Bool) (w : World) (hc : OwnRow w B 24 [.int .i64 r, .int .i64 k, .bool g, .bool s]) :
    Calls Try.prog 38 #[.agg #[.int .i64 x, .int .i64 y, .bool z, .bool u], .pointer (some ⟨B, 0, none⟩)] w fun e w' => e = .returned (.agg #[.int .i64 r, .int .i64 k, .bool g, .bool s]) ∧ Below w.heap.size w w' := by
  obtain ⟨c0, c1, c2, c3⟩ := hc.quad
  have hlt := hc.lt
  clear hc
  go_enter Try.func38, Try.ntmps38
  go_wp2
  exact bodyPost_ret (v := .agg #[.int .i64 r, .int .i64 k, .bool g, .bool s]) (by simp [results, Try.results38, go_sem]) rfl ⟨rfl, ((Below.refl _ _).alloc (Nat.le_refl _) _).alloc (by simp) _⟩

set_option maxHeartbeats 400000 in
theorem sealc_any (x y : Int) (z u : Bool) (w : World) :
    Calls Try.prog 39 #[.agg #[.int .i64 x, .int .i64 y, .bool z, .bool u]] w fun e w' => e = .returned (.agg #[.int .i64 x, .int .i64 y, .bool z, .bool true]) ∧ Below w.heap.size w w' := by
  go_enter Try.func39, Try.ntmps39
  go_wp2
  exact bodyPost_ret (v := .agg #[.int .i64 x, .int .i64 y, .bool z, .bool true]) (by simp [results, Try.results39, go_sem]) rfl ⟨rfl, ((Below.refl _ _).alloc (Nat.le_refl _) _).alloc (by simp) _⟩

set_option maxHeartbeats 400000 in
theorem guardc_any (B C : Nat) (r k : Int) (x y : Int) (z u : Bool) (w : World) (hc : OwnRow w B 3 [.int .i64 r]) (hd : OwnRow w C 3 [.int .i64 k]) :
    Calls Try.prog 40 #[.agg #[.int .i64 x, .int .i64 y, .bool z, .bool u], .pointer (some ⟨B, 0, none⟩), .pointer (some ⟨C, 0, none⟩)] w fun e w' => e = .returned (.agg #[.int .i64 r, .int .i64 k, .bool z, .bool u]) ∧ Below w.heap.size w w' := by
  have c0 : w.cell? ⟨B, 0, none⟩ = some (.int .i64 r) := by rw [hc.cell]; rfl
  have c1 : w.cell? ⟨C, 0, none⟩ = some (.int .i64 k) := by rw [hd.cell]; rfl
  have hlt := hc.lt
  have hlt2 := hd.lt
  clear hc hd
  go_enter Try.func40, Try.ntmps40
  go_wp2
  go_region
  all_goals (try go_wp2)
  all_goals exact bodyPost_ret (v := .agg #[.int .i64 r, .int .i64 k, .bool z, .bool u]) (by simp [results, Try.results40, go_sem]) rfl ⟨rfl, (((Below.refl _ _).alloc (Nat.le_refl _) _).alloc (by simp) _).drew⟩

set_option maxHeartbeats 400000 in
theorem turn_any (v : Value) (l : List R6) (f t : Int) (r k : Int) (g s : Bool) (B : Nat) (w : World) (h : IsRecs encR B w v l) (hB : B ≤ 3518437208883) :
    Calls Try.prog 23 #[v, .int .i64 f, .int .i64 t, .agg #[.int .i64 r, .int .i64 k, .bool g, .bool s]] w fun e w' => ∃ v', e = .returned (lstV v' (chE l f t)) ∧ OwnR 31 6 encR w.heap.size w' v' (chL (tuA (r, k, g, s)) l f t) ∧ Below w.heap.size w w' := by
  have HC : Hid (∀ w1, OwnRow w1 w.heap.size 24 [.int .i64 r, .int .i64 k, .bool g, .bool s] → Below w.heap.size w w1 → Calls Try.prog 37 #[v, .int .i64 f, .int .i64 t, .func (.func 38) #[] #[.pointer (some ⟨w.heap.size, 0, none⟩)]] w1 fun e w' => ∃ v', e = .returned (lstV v' (chE l f t)) ∧ OwnR 31 6 encR w1.heap.size w' v' (chL (tuA (r, k, g, s)) l f t) ∧ Below w1.heap.size w1 w') :=
    fun w1 ho hb => change_turn #[.pointer (some ⟨w.heap.size, 0, none⟩)] (tuA (r, k, g, s)) v l f t B w1 (h.below hb) hB (fun w2 x y z u hb2 => turnc_any w.heap.size r k g s x y z u w2 (ho.below hb2 ho.lt))
  obtain ⟨a, cap, rfl⟩ := h.form
  generalize chE l f t = E at *
  generalize chL (tuA (r, k, g, s)) l f t = C at *
  clear h
  have hbx : Hid (∀ o, Below w.heap.size w (w.alloc o)) := fun o => (Below.refl _ _).alloc (Nat.le_refl _) _
  go_enter Try.func23, Try.ntmps23
  go_wp2_with (go_at_call 37; refine (HC.out _ (heap_alloc_new w _) (hbx.out _)).mono ?_; rintro e w1 ⟨v1, rfl, ho1, hw1⟩)
  go_ret2
  exact ⟨_, rfl, ho1.mono (by simp), below_one hw1⟩

set_option maxHeartbeats 400000 in
theorem seal_any (v : Value) (l : List R6) (f t : Int) (B : Nat) (w : World) (h : IsRecs encR B w v l) (hB : B ≤ 3518437208883) :
    Calls Try.prog 25 #[v, .int .i64 f, .int .i64 t] w fun e w' => ∃ v', e = .returned (lstV v' (chE l f t)) ∧ OwnR 31 6 encR w.heap.size w' v' (chL seA l f t) ∧ Below w.heap.size w w' := by
  have HC : Hid (Calls Try.prog 37 #[v, .int .i64 f, .int .i64 t, .func (.func 39) #[] #[]] w fun e w' => ∃ v', e = .returned (lstV v' (chE l f t)) ∧ OwnR 31 6 encR w.heap.size w' v' (chL seA l f t) ∧ Below w.heap.size w w') :=
    change_seal #[] seA v l f t B w h hB (fun w2 x y z u hb2 => sealc_any x y z u w2)
  obtain ⟨a, cap, rfl⟩ := h.form
  generalize chE l f t = E at *
  generalize chL seA l f t = C at *
  clear h
  go_enter Try.func25, Try.ntmps25
  go_wp2_with (go_at_call 37; refine HC.out.mono ?_; rintro e w1 ⟨v1, rfl, ho1, hw1⟩)
  go_ret2
  exact ⟨_, rfl, ho1, hw1⟩

set_option maxHeartbeats 400000 in
theorem guard_any (v : Value) (l : List R6) (f t : Int) (r k : Int) (B : Nat) (w : World) (h : IsRecs encR B w v l) (hB : B ≤ 3518437208883) :
    Calls Try.prog 27 #[v, .int .i64 f, .int .i64 t, .int .i64 r, .int .i64 k] w fun e w' => ∃ v', e = .returned (lstV v' (chE l f t)) ∧ OwnR 31 6 encR w.heap.size w' v' (chL (guA r k) l f t) ∧ Below w.heap.size w w' := by
  have HC : Hid (∀ w1, OwnRow w1 w.heap.size 3 [.int .i64 r] → OwnRow w1 (w.heap.size + 1) 3 [.int .i64 k] → Below w.heap.size w w1 → Calls Try.prog 37 #[v, .int .i64 f, .int .i64 t, .func (.func 40) #[] #[.pointer (some ⟨w.heap.size, 0, none⟩), .pointer (some ⟨w.heap.size + 1, 0, none⟩)]] w1 fun e w' => ∃ v', e = .returned (lstV v' (chE l f t)) ∧ OwnR 31 6 encR w1.heap.size w' v' (chL (guA r k) l f t) ∧ Below w1.heap.size w1 w') :=
    fun w1 ho ho' hb => change_guard #[.pointer (some ⟨w.heap.size, 0, none⟩), .pointer (some ⟨w.heap.size + 1, 0, none⟩)] (guA r k) v l f t B w1 (h.below hb) hB (fun w2 x y z u hb2 => guardc_any w.heap.size (w.heap.size + 1) r k x y z u w2 (ho.below hb2 ho.lt) (ho'.below hb2 ho'.lt))
  obtain ⟨a, cap, rfl⟩ := h.form
  generalize chE l f t = E at *
  generalize chL (guA r k) l f t = C at *
  clear h
  have hbx : Hid (∀ o o', Below w.heap.size w ((w.alloc o).alloc o')) := fun o o' => ((Below.refl _ _).alloc (Nat.le_refl _) _).alloc (by simp) _
  have h2 : Hid (OwnRow ((w.alloc (.cells #[.int .i64 r] 3)).alloc (.cells #[.int .i64 k] 3)) w.heap.size 3 [.int .i64 r] ∧ OwnRow ((w.alloc (.cells #[.int .i64 r] 3)).alloc (.cells #[.int .i64 k] 3)) (w.heap.size + 1) 3 [.int .i64 k]) := own_two (w := w) (xs := [.int .i64 r]) (ys := [.int .i64 k]) (e := 3) (e' := 3) (Below.refl _ _)
  go_enter Try.func27, Try.ntmps27
  go_wp2_with (go_at_call 37; refine (HC.out _ h2.out.1 h2.out.2 (hbx.out _ _)).mono ?_; rintro e w1 ⟨v1, rfl, ho1, hw1⟩)
  go_ret2
  exact ⟨_, rfl, ho1.mono (by simp; omega), (hbx.out _ _).trans (hw1.mono (by simp; omega))⟩

end Go.Proofs.Ytkiamhmjkpbaiae

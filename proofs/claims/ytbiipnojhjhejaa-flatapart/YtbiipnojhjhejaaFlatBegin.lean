/- The contract of flat.begin: the first process alone, over whichever memory. -/
import Derived.Test.YtbiipnojhjhejaaFlatAll
namespace Go.Proofs.Ytbiipnojhjhejaa
set_option maxRecDepth 100000
open Go.RowKit
set_option linter.unusedSimpArgs false
set_option linter.unusedVariables false

/-- The cells of the first world. -/
def firstL (mv : Value) : List Value := [.bool true, .slice none 0 0, .bool true, .int .i64 0, .bool false, .int .i64 0, .bool false, .int .i64 0, .bool false, .int .i64 0] ++ zPl ++ zPl ++ zPl ++ [mv]

theorem wok_first {mv : Value} {w : World} {g base : Nat} (hr : OwnRow w g 91 (firstL mv)) (hg : g < base) (hb : base ≤ w.heap.size) : WOK mv base g w newW := by
  refine ⟨hg, hb, firstL mv, hr, rfl, rfl, fun k hk => ⟨.slice none 0 0, ?_, ?_⟩⟩
  · match k, hk with
    | 0, _ => exact ⟨rfl, rfl, fun i hi => by match i, hi with | 0, _ => rfl | 1, _ => rfl | 2, _ => rfl | 3, _ => rfl | 4, _ => rfl | 5, _ => rfl | 6, _ => rfl | 7, _ => rfl⟩
    | 1, _ => exact ⟨rfl, rfl, fun i hi => by match i, hi with | 0, _ => rfl | 1, _ => rfl | 2, _ => rfl | 3, _ => rfl | 4, _ => rfl | 5, _ => rfl | 6, _ => rfl | 7, _ => rfl⟩
    | 2, _ => exact ⟨rfl, rfl, fun i hi => by match i, hi with | 0, _ => rfl | 1, _ => rfl | 2, _ => rfl | 3, _ => rfl | 4, _ => rfl | 5, _ => rfl | 6, _ => rfl | 7, _ => rfl⟩
    | 3, _ => exact ⟨rfl, rfl, fun i hi => by match i, hi with | 0, _ => rfl | 1, _ => rfl | 2, _ => rfl | 3, _ => rfl | 4, _ => rfl | 5, _ => rfl | 6, _ => rfl | 7, _ => rfl⟩
  · have : (newW k).L = [] := by
      match k, hk with
      | 0, _ => rfl
      | 1, _ => rfl
      | 2, _ => rfl
      | 3, _ => rfl
    rw [this]
    exact ownR_nil _ _ _

set_option maxHeartbeats 1600000 in
theorem begin_any (t : TypeId) (p : Addr) (w : World) :
    Calls Try.prog 21 #[.iface t (.pointer (some p))] w fun e w' => ∃ g, e = .returned (.pointer (some ⟨g, 0, none⟩)) ∧ w.heap.size ≤ g ∧ WOK (.iface t (.pointer (some p))) (g + 1) g w' newW ∧ Below w.heap.size w w' := by
  go_enter Try.func21, Try.ntmps21
  go_wp2_with (go_at_call 31; refine (first_any _).mono ?_; rintro e w1 ⟨rfl, hb1⟩)
  go_ret
  refine ⟨w1.heap.size, rfl, hb1.size, wok_first ?_ (Nat.lt_succ_self _) (by simp), hb1.trans ((Below.refl _ _).alloc hb1.size _)⟩
  exact heap_alloc_new w1 _

end Go.Proofs.Ytbiipnojhjhejaa

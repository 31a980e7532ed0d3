/- The walk of framewardenlaw.ClockTells: Next and the document's own answer are one. -/
import Derived.Test.YtidaoomhnfgckagClockRef
import Derived.Test.YtidaoomhnfgckagAlive11
namespace Go.Proofs.Ytidaoomhnfgckag
open Go.RowKit
set_option linter.unusedSimpArgs false
set_option linter.unusedVariables false

set_option maxHeartbeats 800000 in
theorem clockTells_walk (hand : Int) (v : Value) (m : List Bool) (u : Value) (us : List Bool) (w : World) (hw : (Lit.int .i64 hand).wf = true) (h : IsRecs encB 1048576 w v m) (hu : IsRecs encB 1048576 w u us) :
    Calls Try.prog 3 #[.int .i64 hand, v, u] w fun e w' => e = .returned (.bool true) ∧ Below w.heap.size w w' := by
  have HN : Hid (Calls Try.prog 6 #[.int .i64 hand, v, u] w fun e w' => ∃ a b va n vc L err, e = .returned (.tuple #[.int .i64 a, .int .i64 b, .slice va n vc, .int .i64 err]) ∧ OwnR 4 1 encB w.heap.size w' (.slice va n vc) L ∧ Says hand m us a b L err ∧ Below w.heap.size w w') := by
    refine (next_any hand v u m us _ w h hu (by decide)).mono ?_
    rintro e w' ⟨a, b, v', L, err, rfl, ho, hs, hb⟩
    obtain ⟨va, vc, rfl⟩ := ho.form
    exact ⟨a, b, va, _, vc, L, err, rfl, ho, hs, hb⟩
  have HK : Hid (∀ w1, Below w.heap.size w w1 → ∀ a b L err, Says hand m us a b L err → Calls Try.prog 7 #[.int .i64 hand, v, u] w1 fun e w' => ∃ va n vc, e = .returned (.tuple #[.int .i64 a, .int .i64 b, .slice va n vc, .int .i64 err]) ∧ OwnR 4 1 encB w1.heap.size w' (.slice va n vc) L ∧ Below w1.heap.size w1 w') := by
    intro w1 hb1 a b L err hs
    refine (knext_any hand v u m us _ w1 (h.below hb1) (hu.below hb1) (by decide)).mono ?_
    rintro e w' ⟨a', b', v', L', err', rfl, ho, hs', hb⟩
    obtain ⟨rfl, rfl, rfl, rfl⟩ := hs.unique hs'
    obtain ⟨va, vc, rfl⟩ := ho.form
    exact ⟨va, _, vc, rfl, ho, hb⟩
  have HE : Hid (∀ w1 v1 u1 L a b err base base', OwnR 4 1 encB base w1 v1 L → OwnR 4 1 encB base' w1 u1 L → Says hand m us a b L err → Calls Try.prog 8 #[v1, u1] w1 fun e w' => e = .returned (.bool true) ∧ Below w1.heap.size w1 w') := by
    intro w1 v1 u1 L a b err base base' h1 h2 hs
    have hl : L.length ≤ 1048576 := Nat.le_trans (says_len hs) hu.len
    exact bequal_is v1 u1 L L 1048576 w1 (h1.recs hl) (h2.recs hl) (by decide) (by simp)
  obtain ⟨a, cap, rfl⟩ := h.form
  obtain ⟨ua, ucap, rfl⟩ := hu.form
  clear h hu
  go_enter Try.func3, Try.ntmps3
  go_wp2_with fail
  refine HN.out.mono ?_
  rintro e w1 ⟨x, y, va, n, vc, L, err, rfl, ho1, hs, hb1⟩
  have HS : Hid _ := hs
  have HO : Hid (OwnR 4 1 encB w.heap.size w1 (.slice va n vc) L) := ho1
  clear hs ho1
  go_wp2_with fail
  refine (HK.out _ hb1 _ _ _ _ HS.out).mono ?_
  rintro e w2 ⟨va2, n2, vc2, rfl, ho2, hb2⟩
  have HO2 : Hid _ := ho2
  clear ho2
  go_wp2_with fail
  refine (HE.out _ _ _ _ _ _ _ _ _ (HO.out.below hb2) HO2.out HS.out).mono ?_
  rintro e w3 ⟨rfl, hb3⟩
  go_wp2
  go_ret
  have hb12 := hb1.trans (hb2.mono hb1.size)
  exact ⟨rfl, hb12.trans (hb3.mono hb12.size)⟩

end Go.Proofs.Ytidaoomhnfgckag

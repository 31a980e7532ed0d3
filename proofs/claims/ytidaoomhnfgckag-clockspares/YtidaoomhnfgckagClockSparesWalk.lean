/- The walk of framewardenkeep.ClockSpares: who was used is spared once. -/
import Derived.Test.YtidaoomhnfgckagAlive11
import Derived.BigQuiet
namespace Go.Proofs.Ytidaoomhnfgckag
open Go.RowKit
set_option linter.unusedSimpArgs false
set_option linter.unusedVariables false

theorem below_drewM {B : Nat} {a w : World} (h : Below B a w) (n : Nat) : Below B a (w.drewN n) := ⟨h.os, h.tape, h.output, h.size, h.block⟩

/-- Next, as the statement asks of it: an error and no list, or a place and a row of the call's own. -/
theorem next_spares (hand : Int) (v u : Value) (m us : List Bool) (B : Nat) (w : World) (h : IsRecs encB B w v m) (hu : IsRecs encB B w u us) (hB : B ≤ 140737488355328) :
    Calls Try.prog 6 #[.int .i64 hand, v, u] w fun e w' =>
      ((∃ va vc b a err, e = .returned (.tuple #[.int .i64 a, .int .i64 b, .slice va 0 vc, .int .i64 err]) ∧ (err != 0) = true) ∨
       (∃ V b g cap xs L, e = .returned (.tuple #[.int .i64 (V : Nat), .int .i64 b, .slice (some ⟨g, 0, none⟩) m.length cap, .int .i64 0]) ∧ OwnRow w' g 4 xs ∧ xs.take m.length = flatL encB L ∧ L.length = m.length ∧ m.length = us.length ∧ V < m.length ∧ m.length ≤ cap ∧ m.getD V false = true ∧ L.getD V false = false ∧
         ∀ k, k < m.length → (m.getD k false = true → us.getD k false = false → us.getD V false = false) ∧ (us.getD k false = false → L.getD k false = false) ∧ (m.getD k false = false → L.getD k false = us.getD k false))) ∧ Below w.heap.size w w' := by
  refine (next_any hand v u m us B w h hu hB).mono ?_
  rintro e w' ⟨a, b, v', L, err, rfl, ho, hs, hb⟩
  refine ⟨?_, hb⟩
  obtain ⟨h1, h2⟩ := spares hs
  by_cases he : err = 0
  · right
    subst he
    obtain ⟨hL, hm, V, rfl, hV, hrest⟩ := h2 rfl
    obtain ⟨g, cap, xs, rfl, -, hr, hc, -, -, ht⟩ := ho.row (by omega)
    rw [Nat.mul_one, hL, ← hm] at ht
    rw [hL, ← hm] at hc
    exact ⟨V, b, g, cap, xs, L, by rw [hL, ← hm]; rfl, hr, ht, by omega, hm, hV, hc, hrest⟩
  · left
    obtain rfl := h1 he
    obtain ⟨va, vc, rfl⟩ := ho.form
    exact ⟨va, vc, b, a, err, rfl, by simpa using he⟩

set_option maxHeartbeats 3200000 in
theorem clockSpares_walk (hand : Int) (v : Value) (m : List Bool) (u : Value) (us : List Bool) (w : World) (hw : (Lit.int .i64 hand).wf = true) (h : IsRecs encB 140737488351232 w v m) (hu : IsRecs encB 140737488351232 w u us) :
    Calls Try.prog 4 #[.int .i64 hand, v, u] w fun e w' => e = .returned (.bool true) ∧ Below w.heap.size w w' := by
  have HN : Hid (∀ w1, Below w.heap.size w w1 → Calls Try.prog 6 #[.int .i64 hand, v, u] w1 fun e w' =>
      ((∃ va vc b a err, e = .returned (.tuple #[.int .i64 a, .int .i64 b, .slice va 0 vc, .int .i64 err]) ∧ (err != 0) = true) ∨
       (∃ V b g cap xs L, e = .returned (.tuple #[.int .i64 (V : Nat), .int .i64 b, .slice (some ⟨g, 0, none⟩) m.length cap, .int .i64 0]) ∧ OwnRow w' g 4 xs ∧ xs.take m.length = flatL encB L ∧ L.length = m.length ∧ m.length = us.length ∧ V < m.length ∧ m.length ≤ cap ∧ m.getD V false = true ∧ L.getD V false = false ∧
         ∀ k, k < m.length → (m.getD k false = true → us.getD k false = false → us.getD V false = false) ∧ (us.getD k false = false → L.getD k false = false) ∧ (m.getD k false = false → L.getD k false = us.getD k false))) ∧ Below w1.heap.size w1 w') :=
    fun w1 hb => next_spares hand v u m us _ w1 (h.below hb) (hu.below hb) (by decide)
  have hlm := h.len
  obtain ⟨a, cap, rfl, h1, -, hc'⟩ := h
  obtain ⟨ua, ucap, rfl, h2, -, hd'⟩ := hu
  go_enter Try.func4, Try.ntmps4
  go_wp2_with fail
  refine (alive11_any _).mono ?_
  rintro e w1 ⟨rfl, hb1⟩
  go_wp2_with fail
  refine (HN.out _ hb1).mono ?_
  rintro e w2 ⟨⟨va, vc, y, x, err, rfl, herr⟩ | ⟨V, y, g, gcap, xs, L, rfl, ho, ht, hL, hm, hV, hgc, hMV, hLV, hall⟩, hb2⟩
  · clear HN hc' hd'
    go_wp2_with fail
    go_ret
    exact ⟨rfl, hb1.trans (hb2.mono hb1.size)⟩
  · have hb12 := hb1.trans (hb2.mono hb1.size)
    obtain ⟨b, off, rfl, hc⟩ := hc' (by omega)
    obtain ⟨ub, uoff, rfl, hd⟩ := hd' (by omega)
    have HM : Hid (∀ i (wr : World), i < m.length → Below w2.heap.size w2 wr → wr.cell? ⟨b, off + i, none⟩ = some (.bool (m.getD i false))) := fun i wr hi hb => cellB hc (hb12.trans (hb.mono hb12.size)) i hi rfl
    have HU : Hid (∀ i (wr : World), i < m.length → Below w2.heap.size w2 wr → wr.cell? ⟨ub, uoff + i, none⟩ = some (.bool (us.getD i false))) := fun i wr hi hb => cellB hd (hb12.trans (hb.mono hb12.size)) i (by omega) rfl
    have HL : Hid (∀ i (wr : World), i < m.length → Below w2.heap.size w2 wr → wr.cell? ⟨g, i, none⟩ = some (.bool (L.getD i false))) := fun i wr hi hb => ownB_cell (ho.below hb ho.lt) (by rw [hL]; exact ht) (by rw [hL]; exact hi)
    have HALL : Hid _ := hall
    rw [← hm]
    obtain ⟨n, hn⟩ : ∃ n, Hid (n = m.length) := ⟨_, rfl⟩
    simp only [← hn.out] at HM HU HL HALL hV hgc hlm h1 ⊢
    have cM := HM.out V w2 hV (Below.refl _ _)
    have cL := HL.out V w2 hV (Below.refl _ _)
    rw [hMV] at cM
    rw [hLV] at cL
    have hx1 : decide ((V : Int) < 0) = false := by simp
    have hx2 : decide ((n : Int) ≤ (V : Int)) = false := by simp; omega
    clear HN hc' hd' hc hd hMV hLV hall ht hL hm h2 ho
    go_wp2_with fail
    go_loopw [58] (fun i wr => ∃ k : Nat, k ≤ n ∧ i = .int .i64 k ∧ Below w2.heap.size w2 wr) (fun i _ => n - (intOf i).toNat)
    case atStart => exact ⟨0, Nat.zero_le _, rfl, Below.refl _ _⟩
    case round =>
      obtain ⟨k, hk, rfl, hbel⟩ := hrel
      by_cases hlt : k < n
      · have c0 := HM.out k wr hlt hbel
        have c1 := HU.out k wr hlt hbel
        have c2 := HL.out k wr hlt hbel
        have c3 := HU.out V wr hV hbel
        have HK : Hid _ := HALL.out k hlt
        generalize m.getD k false = M at c0 HK
        generalize us.getD k false = U at c1 HK
        generalize L.getD k false = Y at c2 HK
        generalize us.getD V false = Z at c3 HK
        clear HM HU HL HALL
        have hcase : (M = true ∧ U = false ∧ Y = false ∧ Z = false) ∨ (M = true ∧ U = true ∧ Y = false) ∨ (M = true ∧ U = true ∧ Y = true) ∨ (M = false ∧ U = false ∧ Y = false) ∨ (M = false ∧ U = true ∧ Y = true) := by
          obtain ⟨k1, k2, k3⟩ := HK.out
          revert k1 k2 k3
          clear c0 c1 c2 c3 HK
          revert M U Y Z
          decide
        clear HK
        rcases hcase with ⟨rfl, rfl, rfl, rfl⟩ | ⟨rfl, rfl, rfl⟩ | ⟨rfl, rfl, rfl⟩ | ⟨rfl, rfl, rfl⟩ | ⟨rfl, rfl, rfl⟩
        all_goals
          go_wp2_with fail
          go_quiet (fail)
          go_wp2_with fail
          go_roundw
          case rel => exact ⟨k + 1, by omega, by go_num, below_drewM hbel _⟩
          case measure => simp [intOf]; omega
      · go_wp2_with fail
        go_ret
        exact ⟨rfl, hb12.trans (hbel.mono hb12.size)⟩

end Go.Proofs.Ytidaoomhnfgckag

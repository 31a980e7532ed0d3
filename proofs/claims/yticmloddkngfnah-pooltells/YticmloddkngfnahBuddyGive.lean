/- Plain facts on what Give answers: when it gives, and that the order of giving is no matter; no program is walked. -/
import Derived.Test.YticmloddkngfnahBuddyMath
namespace Go.Proofs.Yticmloddkngfnah
open Go.RowKit
set_option linter.unusedSimpArgs false
set_option linter.unusedVariables false

theorem giveE_zero {l : List (Int × Int)} {x y : Int} (h : giveE l x y = 0) : rightB l = true ∧ isBlk x y = true ∧ l.any (meets x y) = false := by
  unfold giveE at h
  split at h
  · split at h
    · split at h
      · omega
      · rename_i h1 h2 h3
        exact ⟨h1, h2, by simpa using h3⟩
    · omega
  · omega

theorem giveL_bad {l : List (Int × Int)} {x y : Int} (h : giveE l x y ≠ 0) : giveL l x y = [] := by
  unfold giveL
  rw [if_neg]
  intro hc
  simp only [Bool.and_eq_true, Bool.not_eq_true'] at hc
  exact h (by simp [giveE, hc.1.1, hc.1.2, hc.2])

theorem give_meets {l : List (Int × Int)} {x y u v : Int} (h : giveE l x y = 0) (h' : giveE l u v = 0) : ((∃ k, cov (x, y) k ∧ cov (u, v) k) → giveE (giveL l x y) u v = 7) ∧ ((¬ ∃ k, cov (x, y) k ∧ cov (u, v) k) → giveE (giveL l x y) u v = 0) := by
  obtain ⟨r, b, m⟩ := giveE_zero h
  obtain ⟨-, b', m'⟩ := giveE_zero h'
  obtain ⟨g1, g2⟩ := give_good r b m
  unfold giveE
  rw [right_of_good g1, b']
  simp only [if_true]
  by_cases hm : (giveL l x y).any (meets u v) = true
  · obtain ⟨k, k1, k2⟩ := (meets_iff b' g1.1).1 hm
    rw [if_pos hm]
    refine ⟨fun _ => rfl, fun hno => (hno ?_).elim⟩
    rcases (g2 k).1 k1 with h1 | h1
    · exact (meets_false b' (rightB_blk r) m' h1 k2).elim
    · exact ⟨k, h1, k2⟩
  · rw [if_neg hm]
    refine ⟨?_, fun _ => rfl⟩
    rintro ⟨k, k1, k2⟩
    exact (hm ((meets_iff b' g1.1).2 ⟨k, (g2 k).2 (Or.inr k1), k2⟩)).elim

theorem give_order {l : List (Int × Int)} {x y u v : Int} (h : giveE l x y = 0) (h' : giveE l u v = 0) :
    giveE (giveL l x y) u v = giveE (giveL l u v) x y ∧ giveL (giveL l x y) u v = giveL (giveL l u v) x y := by
  have e1 := give_meets h h'
  have e2 := give_meets h' h
  have hc : (∃ k, cov (x, y) k ∧ cov (u, v) k) ↔ (∃ k, cov (u, v) k ∧ cov (x, y) k) := ⟨fun ⟨k, a, b⟩ => ⟨k, b, a⟩, fun ⟨k, a, b⟩ => ⟨k, b, a⟩⟩
  obtain ⟨r, b, m⟩ := giveE_zero h
  obtain ⟨-, b', m'⟩ := giveE_zero h'
  obtain ⟨g1, g2⟩ := give_good r b m
  obtain ⟨f1, f2⟩ := give_good r b' m'
  by_cases hk : ∃ k, cov (x, y) k ∧ cov (u, v) k
  · replace e1 := e1.1 hk
    replace e2 := e2.1 (hc.1 hk)
    refine ⟨by rw [e1, e2], ?_⟩
    have n1 := giveL_bad (l := giveL l x y) (x := u) (y := v) (by rw [e1]; decide)
    have n2 := giveL_bad (l := giveL l u v) (x := x) (y := y) (by rw [e2]; decide)
    rw [n1, n2]
  · replace e1 := e1.2 hk
    replace e2 := e2.2 (fun h => hk (hc.2 h))
    refine ⟨by rw [e1, e2], ?_⟩
    obtain ⟨r1, b1, m1⟩ := giveE_zero e1
    obtain ⟨r2, b2, m2⟩ := giveE_zero e2
    obtain ⟨G1, G2⟩ := give_good r1 b1 m1
    obtain ⟨F1, F2⟩ := give_good r2 b2 m2
    refine good_unique G1 F1 (fun k => ?_)
    rw [G2 k, F2 k, g2 k, f2 k]
    constructor
    · rintro ((h | h) | h)
      · exact Or.inl (Or.inl h)
      · exact Or.inr h
      · exact Or.inl (Or.inr h)
    · rintro ((h | h) | h)
      · exact Or.inl (Or.inl h)
      · exact Or.inr h
      · exact Or.inl (Or.inr h)

theorem give_len (l : List (Int × Int)) (x y : Int) : (giveL l x y).length ≤ 64 := by
  by_cases h : giveE l x y = 0
  · obtain ⟨r, b, m⟩ := giveE_zero h
    exact right_len (right_of_good (give_good r b m).1)
  · have := giveL_bad h
    rw [this]
    simp

end Go.Proofs.Yticmloddkngfnah

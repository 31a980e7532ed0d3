/- Plain facts on pools: a list of what is free, and how often each frame is meant; what Right, Take, Share and Drop make of them; no program is walked. -/
import Derived.Test.YticmloddkngfnahBuddyTake
namespace Go.Proofs.Yticmloddkngfnah
open Go.RowKit
set_option linter.unusedSimpArgs false
set_option linter.unusedVariables false

/-- Whether frame k is in one of the blocks l. -/
def covB (l : List (Int × Int)) (k : Int) : Bool := l.any fun p => decide (p.1 ≤ k) && decide (k < p.1 + sz p.2)

theorem covB_iff {l : List (Int × Int)} {k : Int} : covB l k = true ↔ covL l k := by
  unfold covB covL cov
  rw [List.any_eq_true]
  constructor
  · rintro ⟨p, hp, h⟩
    simp only [Bool.and_eq_true, decide_eq_true_eq] at h
    exact ⟨p, hp, h⟩
  · rintro ⟨p, hp, h⟩
    exact ⟨p, hp, by simpa using h⟩

theorem covB_nil (k : Int) : covB [] k = false := rfl

/-- Just those of the first k frames are free that nobody means. -/
def fitB (l : List (Int × Int)) (R : Nat → Int) (i : Nat) : Bool := decide (0 ≤ R i) && (covB l i == decide (R i = 0))
/-- Whether they may be a pool. -/
def poolB (l : List (Int × Int)) (R : Nat → Int) : Bool := rightB l && (List.range 64).all (fitB l R)

theorem poolB_iff {l : List (Int × Int)} {R : Nat → Int} : poolB l R = true ↔ Good l ∧ ∀ i : Nat, i < 64 → 0 ≤ R i ∧ (covL l i ↔ R i = 0) := by
  unfold poolB
  rw [Bool.and_eq_true, List.all_eq_true]
  constructor
  · rintro ⟨h1, h2⟩
    refine ⟨good_of_right h1, fun i hi => ?_⟩
    have := h2 i (List.mem_range.2 hi)
    unfold fitB at this
    rw [Bool.and_eq_true, decide_eq_true_eq, beq_iff_eq] at this
    refine ⟨this.1, ?_⟩
    rw [← covB_iff, this.2, decide_eq_true_eq]
  · rintro ⟨h1, h2⟩
    refine ⟨right_of_good h1, fun i hi => ?_⟩
    obtain ⟨h3, h4⟩ := h2 i (List.mem_range.1 hi)
    unfold fitB
    rw [Bool.and_eq_true, decide_eq_true_eq, beq_iff_eq]
    refine ⟨h3, ?_⟩
    rw [Bool.eq_iff_iff, covB_iff, decide_eq_true_eq]
    exact h4

theorem poolB_right {l : List (Int × Int)} {R : Nat → Int} (h : poolB l R = true) : rightB l = true := by
  unfold poolB at h
  rw [Bool.and_eq_true] at h
  exact h.1

/-- Looked at one frame behind the other. -/
theorem poolB_no {l : List (Int × Int)} {R : Nat → Int} {i : Nat} (hi : i < 64) (h : fitB l R i = false) : poolB l R = false := by
  unfold poolB
  rw [Bool.and_eq_false_iff]
  right
  rw [List.all_eq_false]
  exact ⟨i, List.mem_range.2 hi, by rw [h]; decide⟩

theorem poolB_yes {l : List (Int × Int)} {R : Nat → Int} (hr : rightB l = true) (h : ∀ i : Nat, i < 64 → fitB l R i = true) : poolB l R = true := by
  unfold poolB
  rw [Bool.and_eq_true, List.all_eq_true]
  exact ⟨hr, fun i hi => h i (List.mem_range.1 hi)⟩

/-- Frame i is meant x times. -/
def updR (R : Nat → Int) (i : Nat) (x : Int) : Nat → Int := fun j => if j = i then x else R j

theorem updR_self (R : Nat → Int) (i : Nat) (x : Int) : updR R i x i = x := by unfold updR; rw [if_pos rfl]
theorem updR_ne (R : Nat → Int) {i j : Nat} (x : Int) (h : j ≠ i) : updR R i x j = R j := by unfold updR; rw [if_neg h]
theorem updR_same {R : Nat → Int} {i : Nat} {x : Int} (h : R i = x) : updR R i x = R := by
  funext j
  by_cases hj : j = i
  · rw [hj, updR_self, h]
  · rw [updR_ne R x hj]
theorem updR_again (R : Nat → Int) (i : Nat) (x y : Int) : updR (updR R i x) i y = updR R i y := by
  funext j
  by_cases hj : j = i
  · rw [hj, updR_self, updR_self]
  · rw [updR_ne _ _ hj, updR_ne _ _ hj, updR_ne _ _ hj]

theorem cov_one {x k : Int} : cov (x, 0) k ↔ k = x := by
  unfold cov
  simp only [sz0]
  omega

theorem blk_one {n : Int} (h0 : 0 ≤ n) (h6 : n < 64) : isBlk n 0 = true := by
  rw [isBlk_iff, sz0]
  omega

/-- What Take answers besides. -/
def ptE (l : List (Int × Int)) (R : Nat → Int) : Int := if poolB l R then takeE l 0 else 1
def ptL (l : List (Int × Int)) (R : Nat → Int) : List (Int × Int) := if ptE l R = 0 then takeL l 0 else []
def ptN (l : List (Int × Int)) (R : Nat → Int) : Int := if ptE l R = 0 then takeAt l 0 else 0
def ptR (l : List (Int × Int)) (R : Nat → Int) : Nat → Int := if ptE l R = 0 then updR R (takeAt l 0).toNat 1 else fun _ => 0

theorem ptE_zero {l : List (Int × Int)} {R : Nat → Int} (h : ptE l R = 0) : poolB l R = true ∧ takeE l 0 = 0 := by
  unfold ptE at h
  split at h
  · rename_i h1; exact ⟨h1, h⟩
  · omega

theorem take_at {l : List (Int × Int)} (h : takeE l 0 = 0) : 0 ≤ takeAt l 0 ∧ takeAt l 0 < 64 := by
  obtain ⟨-, -, g2, -⟩ := take_good h
  obtain ⟨-, -, g3, g4, -⟩ := isBlk_iff.1 g2
  rw [sz0] at g4
  omega

/-- What was taken was free. -/
theorem take_pool {l : List (Int × Int)} {R : Nat → Int} (hp : poolB l R = true) (h : takeE l 0 = 0) :
    R (takeAt l 0).toNat = 0 ∧ poolB (takeL l 0) (updR R (takeAt l 0).toNat 1) = true := by
  obtain ⟨-, g1, g2, g3, g4, -⟩ := take_good h
  obtain ⟨x0, x6⟩ := take_at h
  obtain ⟨p1, p2⟩ := poolB_iff.1 hp
  have hx : (((takeAt l 0).toNat : Nat) : Int) = takeAt l 0 := Int.toNat_of_nonneg x0
  have h0 := (p2 (takeAt l 0).toNat (by omega)).2
  rw [hx] at h0
  have h1 : R (takeAt l 0).toNat = 0 := h0.1 ((g3 _).2 (Or.inr (cov_one.2 rfl)))
  refine ⟨h1, poolB_iff.2 ⟨g1, fun i hi => ?_⟩⟩
  obtain ⟨q1, q2⟩ := p2 i hi
  by_cases he : i = (takeAt l 0).toNat
  · subst he
    rw [updR_self]
    refine ⟨by decide, fun hc => ?_, fun hc => by omega⟩
    exact (g4 _ hc (cov_one.2 hx)).elim
  · rw [updR_ne _ _ he]
    refine ⟨q1, ?_⟩
    rw [← q2, g3]
    constructor
    · exact Or.inl
    · rintro (hc | hc)
      · exact hc
      · have := cov_one.1 hc
        omega

/-- Where nothing can be taken nothing is free. -/
theorem take_none {l : List (Int × Int)} (hr : rightB l = true) (h : takeE l 0 ≠ 0) : takeE l 0 = 4 ∧ l = [] := by
  have ho : isOrd 0 = true := by decide
  have hE : takeE l 0 = if 0 ≤ bst 0 l l.length then 0 else 4 := by simp [takeE, hr, ho]
  rw [hE] at h ⊢
  by_cases hb : 0 ≤ bst 0 l l.length
  · rw [if_pos hb] at h; exact absurd rfl h
  · refine ⟨if_neg hb, ?_⟩
    cases l with
    | nil => rfl
    | cons p r =>
      exfalso
      have hp := isBlk_iff.1 (rightB_blk hr p (by simp))
      have : ∀ k : Nat, 0 < k → 0 ≤ bst 0 (p :: r) k := by
        intro k
        induction k with
        | zero => intro h; omega
        | succ k ih =>
          intro _
          have hbd := bst_bd 0 (p :: r) k
          simp only [bst]
          split
          · omega
          · rename_i hc
            by_cases hk : 0 < k
            · exact ih hk
            · obtain rfl : k = 0 := by omega
              exact absurd ⟨by simpa using hp.1, Or.inl (by simp [bst])⟩ hc
      exact hb (this _ (by simp))

theorem take_some {l : List (Int × Int)} (hr : rightB l = true) (h : l ≠ []) : takeE l 0 = 0 := by
  by_cases he : takeE l 0 = 0
  · exact he
  · exact absurd (take_none hr he).2 h

/-- Why frame n of a pool can be neither shared nor dropped. -/
def pwE (l : List (Int × Int)) (R : Nat → Int) (n : Int) : Int := if poolB l R then if n < 0 ∨ 63 < n ∨ R n.toNat = 0 then 3 else 0 else 1

theorem pwE_zero {l : List (Int × Int)} {R : Nat → Int} {n : Int} : pwE l R n = 0 ↔ poolB l R = true ∧ 0 ≤ n ∧ n < 64 ∧ R n.toNat ≠ 0 := by
  unfold pwE
  split
  · rename_i h
    split
    · rename_i h2
      refine ⟨fun h => by omega, fun h => ?_⟩
      obtain ⟨-, a, b, c⟩ := h
      rcases h2 with h2 | h2 | h2
      · omega
      · omega
      · exact absurd h2 c
    · rename_i h2
      refine ⟨fun _ => ⟨h, by omega, by omega, fun hc => h2 (Or.inr (Or.inr hc))⟩, fun _ => rfl⟩
  · rename_i h
    exact ⟨fun h => by omega, fun h' => absurd h'.1 h⟩

theorem pwE_pos {l : List (Int × Int)} {R : Nat → Int} {n : Int} (h : pwE l R n = 0) : 1 ≤ R n.toNat := by
  obtain ⟨h1, h2, h3, h4⟩ := pwE_zero.1 h
  have := ((poolB_iff.1 h1).2 n.toNat (by omega)).1
  omega

/-- What Share answers. -/
def psE (l : List (Int × Int)) (R : Nat → Int) (n : Int) : Int := if pwE l R n = 0 then if 4 ≤ R n.toNat then 4 else 0 else pwE l R n
def psL (l : List (Int × Int)) (R : Nat → Int) (n : Int) : List (Int × Int) := if psE l R n = 0 then l else []
def psR (l : List (Int × Int)) (R : Nat → Int) (n : Int) : Nat → Int := if psE l R n = 0 then updR R n.toNat (R n.toNat + 1) else fun _ => 0

theorem psE_zero {l : List (Int × Int)} {R : Nat → Int} {n : Int} : psE l R n = 0 ↔ pwE l R n = 0 ∧ R n.toNat < 4 := by
  unfold psE
  split
  · rename_i h
    split
    · rename_i h2; exact ⟨fun h => by omega, fun h => by omega⟩
    · rename_i h2; exact ⟨fun _ => ⟨h, by omega⟩, fun _ => rfl⟩
  · rename_i h
    exact ⟨fun h' => absurd h' h, fun h' => absurd h'.1 h⟩

/-- What Drop answers. -/
def pdL (l : List (Int × Int)) (R : Nat → Int) (n : Int) : List (Int × Int) := if pwE l R n = 0 then if R n.toNat = 1 then giveL l n 0 else l else []
def pdR (l : List (Int × Int)) (R : Nat → Int) (n : Int) : Nat → Int := if pwE l R n = 0 then updR R n.toNat (R n.toNat - 1) else fun _ => 0

/-- As long as a frame is meant what is free is as it was. -/
theorem keep_pool {l : List (Int × Int)} {R : Nat → Int} {i : Nat} {x : Int} (hp : poolB l R = true) (hi : i < 64) (h : R i ≠ 0) (hx : 0 < x) : poolB l (updR R i x) = true := by
  obtain ⟨p1, p2⟩ := poolB_iff.1 hp
  refine poolB_iff.2 ⟨p1, fun j hj => ?_⟩
  by_cases he : j = i
  · subst he
    rw [updR_self]
    refine ⟨by omega, fun hc => ?_, fun hc => by omega⟩
    exact absurd ((p2 j hj).2.1 hc) h
  · rw [updR_ne _ _ he]
    exact p2 j hj

/-- Who is meant no more is free. -/
theorem gone_pool {l : List (Int × Int)} {R : Nat → Int} {n : Int} (h : pwE l R n = 0) : giveE l n 0 = 0 ∧ poolB (giveL l n 0) (updR R n.toNat 0) = true := by
  obtain ⟨hp, n0, n6, hn⟩ := pwE_zero.1 h
  obtain ⟨p1, p2⟩ := poolB_iff.1 hp
  have hb := blk_one n0 n6
  have hx : ((n.toNat : Nat) : Int) = n := Int.toNat_of_nonneg n0
  have hr := right_of_good p1
  have hno : ¬ covL l n := by
    intro hc
    have := (p2 n.toNat (by omega)).2
    rw [hx] at this
    exact hn (this.1 hc)
  have hm : l.any (meets n 0) = false := by
    rw [Bool.eq_false_iff]
    intro hc
    obtain ⟨k, k1, k2⟩ := (meets_iff hb p1.1).1 hc
    rw [cov_one.1 k2] at k1
    exact hno k1
  obtain ⟨g1, g2⟩ := give_good hr hb hm
  refine ⟨by simp [giveE, hr, hb, hm], poolB_iff.2 ⟨g1, fun i hi => ?_⟩⟩
  rw [g2, cov_one]
  by_cases he : i = n.toNat
  · subst he
    rw [updR_self]
    exact ⟨by decide, fun _ => rfl, fun _ => Or.inr hx⟩
  · rw [updR_ne _ _ he, ← (p2 i hi).2]
    refine ⟨(p2 i hi).1, fun hc => ?_, Or.inl⟩
    rcases hc with hc | hc
    · exact hc
    · omega

theorem drop_pool {l : List (Int × Int)} {R : Nat → Int} {n : Int} (h : pwE l R n = 0) : poolB (pdL l R n) (pdR l R n) = true := by
  obtain ⟨hp, n0, n6, hn⟩ := pwE_zero.1 h
  have h1 := pwE_pos h
  unfold pdL pdR
  rw [if_pos h, if_pos h]
  split
  · rename_i he
    rw [he]
    exact (gone_pool h).2
  · rename_i he
    exact keep_pool hp (by omega) hn (by omega)

theorem share_pool {l : List (Int × Int)} {R : Nat → Int} {n : Int} (h : psE l R n = 0) : poolB (psL l R n) (psR l R n) = true := by
  obtain ⟨h1, h2⟩ := psE_zero.1 h
  obtain ⟨hp, n0, n6, hn⟩ := pwE_zero.1 h1
  have h3 := pwE_pos h1
  unfold psL psR
  rw [if_pos h, if_pos h]
  exact keep_pool hp (by omega) hn (by omega)

/-- How often each frame is meant tells what is free. -/
theorem pool_unique {l m : List (Int × Int)} {R : Nat → Int} (hl : poolB l R = true) (hm : Good m) (h : ∀ t : Nat, t < 64 → (covL m t ↔ R t = 0)) : m = l := by
  obtain ⟨p1, p2⟩ := poolB_iff.1 hl
  refine good_unique hm p1 (fun k => ?_)
  have hin : ∀ f : List (Int × Int), Good f → covL f k → 0 ≤ k ∧ k < 64 := by
    rintro f hf ⟨p, hp, h1, h2⟩
    obtain ⟨b0, b6, bx0, bx, -⟩ := isBlk_iff.1 (hf.1 p hp)
    omega
  constructor
  · intro hc
    obtain ⟨k0, k1⟩ := hin m hm hc
    have e := Int.toNat_of_nonneg k0
    have := (h k.toNat (by omega)).1 (by rw [e]; exact hc)
    have := (p2 k.toNat (by omega)).2.2 this
    rwa [e] at this
  · intro hc
    obtain ⟨k0, k1⟩ := hin l p1 hc
    have e := Int.toNat_of_nonneg k0
    have := (p2 k.toNat (by omega)).2.1 (by rw [e]; exact hc)
    have := (h k.toNat (by omega)).2 this
    rwa [e] at this

/-- How many of the first k frames nobody means. -/
def cnt0 (R : Nat → Int) : Nat → Nat
  | 0 => 0
  | k + 1 => cnt0 R k + if R k = 0 then 1 else 0

theorem cnt0_le (R : Nat → Int) : ∀ k, cnt0 R k ≤ k
  | 0 => Nat.le_refl _
  | k + 1 => by have := cnt0_le R k; simp only [cnt0]; split <;> omega

theorem cnt0_upd {R : Nat → Int} {i : Nat} {x : Int} (hx : x ≠ 0) (h : R i = 0) : ∀ k, cnt0 (updR R i x) k + (if i < k then 1 else 0) = cnt0 R k
  | 0 => rfl
  | k + 1 => by
    have ih := cnt0_upd hx h k
    simp only [cnt0]
    by_cases hk : k = i
    · subst hk
      rw [updR_self, if_neg hx, if_pos h, if_pos (by omega)]
      rw [if_neg (by omega)] at ih
      omega
    · rw [updR_ne _ _ hk]
      by_cases h1 : i < k
      · rw [if_pos h1] at ih
        rw [if_pos (show i < k + 1 by omega)]
        omega
      · rw [if_neg h1] at ih
        rw [if_neg (show ¬ i < k + 1 by omega)]
        omega

theorem cnt0_pos {R : Nat → Int} : ∀ {k}, 0 < cnt0 R k → ∃ i, i < k ∧ R i = 0
  | 0, h => absurd h (by simp [cnt0])
  | k + 1, h => by
    simp only [cnt0] at h
    by_cases hk : R k = 0
    · exact ⟨k, by omega, hk⟩
    · rw [if_neg hk] at h
      obtain ⟨i, hi, h0⟩ := cnt0_pos (k := k) (by omega)
      exact ⟨i, by omega, h0⟩

theorem cnt0_zero {R : Nat → Int} : ∀ {k}, cnt0 R k = 0 → ∀ i, i < k → R i ≠ 0
  | 0, _, i, hi => by omega
  | k + 1, h, i, hi => by
    simp only [cnt0] at h
    by_cases hk : R k = 0
    · rw [if_pos hk] at h; omega
    · rw [if_neg hk] at h
      by_cases he : i = k
      · rw [he]; exact hk
      · exact cnt0_zero (k := k) (by omega) i (by omega)

/-- As long as one is left one can be taken; one is left less then. -/
theorem all_more {l : List (Int × Int)} {R : Nat → Int} {m : Nat} (hp : poolB l R = true) (h : cnt0 R 64 = m + 1) :
    takeE l 0 = 0 ∧ R (takeAt l 0).toNat = 0 ∧ poolB (takeL l 0) (updR R (takeAt l 0).toNat 1) = true ∧ cnt0 (updR R (takeAt l 0).toNat 1) 64 = m := by
  obtain ⟨p1, p2⟩ := poolB_iff.1 hp
  obtain ⟨i, hi, h0⟩ := cnt0_pos (R := R) (k := 64) (by omega)
  have hne : l ≠ [] := by
    rintro rfl
    obtain ⟨p, hp, -⟩ := (p2 i hi).2.2 h0
    simp at hp
  have hE := take_some (right_of_good p1) hne
  obtain ⟨t1, t2⟩ := take_pool hp hE
  have hx := take_at hE
  have hc := cnt0_upd (x := 1) (by decide) t1 64
  rw [if_pos (by omega)] at hc
  exact ⟨hE, t1, t2, by omega⟩

theorem all_none {l : List (Int × Int)} {R : Nat → Int} (hp : poolB l R = true) (h : cnt0 R 64 = 0) : takeE l 0 = 4 := by
  obtain ⟨p1, p2⟩ := poolB_iff.1 hp
  by_cases he : takeE l 0 = 0
  · obtain ⟨t1, -⟩ := take_pool hp he
    have hx := take_at he
    exact absurd t1 (cnt0_zero h _ (by omega))
  · exact (take_none (right_of_good p1) he).1

/-- What was taken, shared, dropped and dropped again: all that is answered on the way. -/
theorem back13 {l : List (Int × Int)} {R : Nat → Int} (hp : poolB l R = true) (hE : takeE l 0 = 0) {x : Nat} (hx : takeAt l 0 = x) :
    x < 64 ∧ R x = 0 ∧ poolB (takeL l 0) (updR R x 1) = true ∧
    (psE (takeL l 0) (updR R x 1) x = 0 ∧ psL (takeL l 0) (updR R x 1) x = takeL l 0 ∧ psR (takeL l 0) (updR R x 1) x = updR R x 2 ∧ poolB (takeL l 0) (updR R x 2) = true) ∧
    (pwE (takeL l 0) (updR R x 2) x = 0 ∧ pdL (takeL l 0) (updR R x 2) x = takeL l 0 ∧ pdR (takeL l 0) (updR R x 2) x = updR R x 1) ∧
    (pwE (takeL l 0) (updR R x 1) x = 0 ∧ pdL (takeL l 0) (updR R x 1) x = l ∧ pdR (takeL l 0) (updR R x 1) x = R) := by
  obtain ⟨t1, t2⟩ := take_pool hp hE
  have hb := take_at hE
  obtain ⟨g1, g2⟩ := take_give hE
  rw [hx] at t1 t2 hb g1 g2
  rw [Int.toNat_natCast] at t1 t2
  have h64 : x < 64 := by omega
  have w1 : pwE (takeL l 0) (updR R x 1) x = 0 := pwE_zero.2 ⟨t2, by omega, by omega, by rw [Int.toNat_natCast, updR_self]; decide⟩
  have s1 : psE (takeL l 0) (updR R x 1) x = 0 := psE_zero.2 ⟨w1, by rw [Int.toNat_natCast, updR_self]; decide⟩
  have p2 : poolB (takeL l 0) (updR R x 2) = true := by
    have := keep_pool (x := 2) t2 h64 (by rw [updR_self]; decide) (by decide)
    rwa [updR_again] at this
  have w2 : pwE (takeL l 0) (updR R x 2) x = 0 := pwE_zero.2 ⟨p2, by omega, by omega, by rw [Int.toNat_natCast, updR_self]; decide⟩
  refine ⟨h64, t1, t2, ⟨s1, by simp [psL, s1], ?_, p2⟩, ⟨w2, ?_, ?_⟩, w1, ?_, ?_⟩
  · simp only [psR, s1, if_true, Int.toNat_natCast]
    rw [updR_self, updR_again]
    rfl
  · simp only [pdL, w2, if_true, Int.toNat_natCast]
    rw [if_neg (by rw [updR_self]; decide)]
  · simp only [pdR, w2, if_true, Int.toNat_natCast]
    rw [updR_self, updR_again]
    rfl
  · simp only [pdL, w1, if_true, Int.toNat_natCast]
    rw [if_pos (by rw [updR_self])]
    exact g2
  · simp only [pdR, w1, if_true, Int.toNat_natCast]
    rw [updR_self, updR_again]
    exact updR_same t1

theorem alive13_math : poolB [(0, 6)] (fun _ => 0) = true ∧ takeE [(0, 6)] 0 = 0 ∧ takeAt [(0, 6)] 0 = 0 := by decide +kernel

end Go.Proofs.Yticmloddkngfnah

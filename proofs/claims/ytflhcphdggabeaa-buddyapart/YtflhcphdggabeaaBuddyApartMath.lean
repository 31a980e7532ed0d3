/- Plain facts on what is free and what somebody has: they share no frame, and together they are all; no program is walked. -/
import Derived.Test.YtflhcphdggabeaaBuddyTake
namespace Go.Proofs.Ytflhcphdggabeaa
open Go.RowKit
set_option linter.unusedSimpArgs false
set_option linter.unusedVariables false

def Disj (H : List (Int × Int)) : Prop := H.Pairwise (fun p q => ∀ t, cov p t → ¬ cov q t)

/-- What is free and what somebody has. -/
def Inv1 (f H : List (Int × Int)) : Prop :=
  Good f ∧ AllBlk H ∧ Disj H ∧ (∀ t, 0 ≤ t → t < 64 → covL f t ∨ covL H t) ∧ (∀ t, covL f t → ¬ covL H t) ∧ sumSz f + sumSz H = 64

theorem good_new : Good [(0, 6)] := good_of_right (by decide +kernel)

theorem cov_new (t : Int) : covL [(0, 6)] t ↔ 0 ≤ t ∧ t < 64 := by
  rw [covL_one]
  unfold cov
  simp only [sz6]
  omega

theorem inv1_start : Inv1 [(0, 6)] [] := by
  refine ⟨good_new, fun p hp => by simp at hp, List.Pairwise.nil, fun t h0 h1 => Or.inl ((cov_new t).2 ⟨h0, h1⟩), fun t _ hc => ?_, by simp [sumSz, sz6]⟩
  obtain ⟨p, hp, -⟩ := hc
  simp at hp

theorem inv1_len {f H : List (Int × Int)} (h : Inv1 f H) : H.length ≤ 64 := by
  obtain ⟨hg, hA, -, -, -, hs⟩ := h
  have h1 := sumSz_bd hg.1
  have h2 : ∀ l : List (Int × Int), AllBlk l → (l.length : Int) ≤ sumSz l := by
    intro l
    induction l with
    | nil => intro _; simp [sumSz]
    | cons p r ih =>
      intro hl
      have := ih (fun q hq => hl q (by simp [hq]))
      have hp := blk_pos (hl p (by simp))
      simp only [sumSz, List.length_cons]
      push_cast
      omega
  have := h2 H hA
  omega

theorem inv1_step {f H : List (Int × Int)} {o : Int} (h : Inv1 f H) (he : takeE f o = 0) :
    Inv1 (takeL f o) (H ++ [(takeAt f o, o)]) ∧ giveE f (takeAt f o) o = 7 ∧ ∀ p ∈ H, meets (takeAt f o) o p = false := by
  obtain ⟨hg, hA, hD, hall, hno, hs⟩ := h
  obtain ⟨hr, g1, g2, g3, g4, -⟩ := take_good he
  have hts := take_sum he
  have hbp := blk_pos (p := (takeAt f o, o)) g2
  simp only at hbp
  have hfree : ∀ t, cov (takeAt f o, o) t → covL f t := fun t ht => (g3 t).2 (Or.inr ht)
  refine ⟨⟨g1, ?_, ?_, ?_, ?_, ?_⟩, ?_, ?_⟩
  · intro p hp
    rw [List.mem_append, List.mem_singleton] at hp
    rcases hp with hp | rfl
    · exact hA p hp
    · exact g2
  · unfold Disj
    rw [List.pairwise_append]
    refine ⟨hD, List.pairwise_singleton _ _, fun p hp q hq t h1 h2 => ?_⟩
    rw [List.mem_singleton] at hq
    subst hq
    exact hno t (hfree t h2) ⟨p, hp, h1⟩
  · intro t t0 t1
    rw [covL_append, covL_one]
    rcases hall t t0 t1 with h1 | h1
    · rcases (g3 t).1 h1 with h2 | h2
      · exact Or.inl h2
      · exact Or.inr (Or.inr h2)
    · exact Or.inr (Or.inl h1)
  · intro t h1 h2
    rw [covL_append, covL_one] at h2
    rcases h2 with h2 | h2
    · exact hno t ((g3 t).2 (Or.inl h1)) h2
    · exact g4 t h1 h2
  · rw [hts, sumSz_append]
    simp [sumSz]
    omega
  · have hm : f.any (meets (takeAt f o) o) = true := (meets_iff g2 hg.1).2 ⟨takeAt f o, hfree _ ⟨by simp, by simp only; omega⟩, ⟨by simp, by simp only; omega⟩⟩
    simp [giveE, hr, g2, hm]
  · intro p hp
    rw [Bool.eq_false_iff]
    intro hm
    have : [p].any (meets (takeAt f o) o) = true := by simp [hm]
    obtain ⟨t, h1, h2⟩ := (meets_iff g2 (fun q hq => by rw [List.mem_singleton] at hq; subst hq; exact hA _ hp)).1 this
    rw [covL_one] at h1
    exact hno t (hfree t h2) ⟨p, hp, h1⟩

def Full (f : List (Int × Int)) (x : Int × Int) : Prop := ∀ t, cov x t → covL f t

/-- What is free while all is given back. -/
def Inv2 (f H : List (Int × Int)) : Prop :=
  Good f ∧ AllBlk H ∧ Disj H ∧ (∀ t, 0 ≤ t → t < 64 → covL f t ∨ covL H t) ∧ ∀ x ∈ H, Full f x ∨ ∀ t, cov x t → ¬ covL f t

theorem inv2_of {f H : List (Int × Int)} (h : Inv1 f H) : Inv2 f H := by
  obtain ⟨hg, hA, hD, hall, hno, -⟩ := h
  exact ⟨hg, hA, hD, hall, fun x hx => Or.inr fun t ht hc => hno t hc ⟨x, hx, ht⟩⟩

theorem disj_ne {H : List (Int × Int)} (hD : Disj H) {x y : Int × Int} (hx : x ∈ H) (hy : y ∈ H) (hne : x ≠ y) : ∀ t, cov x t → ¬ cov y t := by
  obtain ⟨i, hi, rfl⟩ := List.getElem_of_mem hx
  obtain ⟨j, hj, rfl⟩ := List.getElem_of_mem hy
  rcases Nat.lt_trichotomy i j with h | h | h
  · exact List.pairwise_iff_getElem.1 hD i j hi hj h
  · subst h; exact absurd rfl hne
  · intro t h1 h2
    exact List.pairwise_iff_getElem.1 hD j i hj hi h t h2 h1

theorem inv2_give {f H : List (Int × Int)} {x : Int × Int} (h : Inv2 f H) (hx : x ∈ H) (he : giveE f x.1 x.2 = 0) :
    Inv2 (giveL f x.1 x.2) H ∧ Full (giveL f x.1 x.2) x ∧ ∀ y, Full f y → Full (giveL f x.1 x.2) y := by
  obtain ⟨hg, hA, hD, hall, hfn⟩ := h
  obtain ⟨r, b, m⟩ := giveE_zero he
  obtain ⟨g1, g2⟩ := give_good r b m
  have hfx : Full (giveL f x.1 x.2) x := fun t ht => (g2 t).2 (Or.inr ht)
  have hmono : ∀ y, Full f y → Full (giveL f x.1 x.2) y := fun y hy t ht => (g2 t).2 (Or.inl (hy t ht))
  refine ⟨⟨g1, hA, hD, fun t t0 t1 => ?_, fun y hy => ?_⟩, hfx, hmono⟩
  · rcases hall t t0 t1 with h1 | h1
    · exact Or.inl ((g2 t).2 (Or.inl h1))
    · exact Or.inr h1
  · by_cases hxy : x = y
    · subst hxy; exact Or.inl hfx
    · rcases hfn y hy with h1 | h1
      · exact Or.inl (hmono y h1)
      · refine Or.inr fun t ht hc => ?_
        rcases (g2 t).1 hc with h2 | h2
        · exact h1 t ht h2
        · exact disj_ne hD hx hy hxy t h2 ht

theorem inv2_held {f H : List (Int × Int)} {x : Int × Int} (h : Inv2 f H) (hx : x ∈ H) (he : giveE f x.1 x.2 ≠ 0) : Full f x := by
  obtain ⟨hg, hA, hD, hall, hfn⟩ := h
  have hb := hA x hx
  have hr := right_of_good hg
  have hm : f.any (meets x.1 x.2) = true := by
    by_cases hm : f.any (meets x.1 x.2) = true
    · exact hm
    · exact absurd (by simp [giveE, hr, hb, hm]) he
  obtain ⟨t, h1, h2⟩ := (meets_iff hb hg.1).1 hm
  rcases hfn x hx with h3 | h3
  · exact h3
  · exact (h3 t h2 h1).elim

theorem inv2_end {f H : List (Int × Int)} (h : Inv2 f H) (hf : ∀ x ∈ H, Full f x) : f = [(0, 6)] := by
  obtain ⟨hg, hA, hD, hall, hfn⟩ := h
  refine good_unique hg good_new (fun t => ?_)
  rw [cov_new]
  constructor
  · rintro ⟨p, hp, h1, h2⟩
    obtain ⟨b0, b6, bx0, bx, -⟩ := isBlk_iff.1 (hg.1 p hp)
    omega
  · rintro ⟨h1, h2⟩
    rcases hall t h1 h2 with h3 | ⟨x, hx, h3⟩
    · exact h3
    · exact hf x hx t h3

end Go.Proofs.Ytflhcphdggabeaa

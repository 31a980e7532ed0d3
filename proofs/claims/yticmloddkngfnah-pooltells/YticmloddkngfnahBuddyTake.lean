/- Plain facts on what Take answers: what it leaves free is right, and has the frames of the list but for those that were taken; no program is walked. -/
import Derived.Test.YticmloddkngfnahBuddyGive
namespace Go.Proofs.Yticmloddkngfnah
open Go.RowKit
set_option linter.unusedSimpArgs false
set_option linter.unusedVariables false

theorem bst_ge (o : Int) (l : List (Int × Int)) : ∀ k : Nat, 0 ≤ bst o l k → o ≤ (l.getD (bst o l k).toNat (0, 0)).2
  | 0, h => by simp [bst] at h
  | k + 1, h => by
    have ih := bst_ge o l k
    simp only [bst] at h ⊢
    split at h
    · rename_i hc
      rw [if_pos hc, Int.toNat_natCast]
      exact hc.1
    · rename_i hc
      rw [if_neg hc]
      exact ih h

theorem mem_partL {x o : Int} {k : Nat} {q : Int × Int} : q ∈ partL x o k ↔ ∃ i : Nat, i < k ∧ q = (x + sz (o + i), o + i) := by
  unfold partL
  rw [List.mem_map]
  constructor
  · rintro ⟨i, hi, rfl⟩
    exact ⟨i, by simpa using hi, rfl⟩
  · rintro ⟨i, hi, rfl⟩
    exact ⟨i, by simpa using hi, rfl⟩

theorem cov_partL (x o : Int) (h0 : 0 ≤ o) (t : Int) : ∀ k : Nat, covL (partL x o k) t ↔ x + sz o ≤ t ∧ t < x + sz (o + k)
  | 0 => by
    simp only [partL, List.range_zero, List.map_nil, Int.natCast_zero, Int.add_zero]
    constructor
    · rintro ⟨p, hp, -⟩; simp at hp
    · intro h; omega
  | k + 1 => by
    rw [partL_succ, covL_append, cov_partL x o h0 t k, covL_one]
    have hs : sz (o + ((k + 1 : Nat) : Int)) = 2 * sz (o + k) := by
      rw [show o + ((k + 1 : Nat) : Int) = o + (k : Int) + 1 by omega]
      exact sz_succ (by omega)
    have hpos : ∀ j : Nat, sz o ≤ sz (o + j) := by
      intro j
      induction j with
      | zero => simp
      | succ j ih =>
        have : sz (o + ((j + 1 : Nat) : Int)) = 2 * sz (o + j) := by
          rw [show o + ((j + 1 : Nat) : Int) = o + (j : Int) + 1 by omega]
          exact sz_succ (by omega)
        have hp : 0 < sz (o + (j : Int)) := by unfold sz; exact Int.pow_pos (by decide)
        omega
    have := hpos k
    have hk0 : 0 < sz (o + (k : Int)) := by unfold sz; exact Int.pow_pos (by decide)
    rw [hs]
    unfold cov
    simp only
    omega

/-- The numbers that halving rests on. -/
theorem half_facts {x y j : Int} (hb : isBlk x y = true) (j0 : 0 ≤ j) (jy : j < y) : isBlk (x + sz j) j = true ∧ x + sz j + sz j ≤ x + sz y ∧ x % (2 * sz j) = 0 := by
  obtain ⟨b0, b6, bx0, bx, bm⟩ := isBlk_iff.1 hb
  rcases ord_cases j0 (by omega) with rfl | rfl | rfl | rfl | rfl | rfl | rfl <;> rcases ord_cases b0 b6 with rfl | rfl | rfl | rfl | rfl | rfl | rfl <;>
    first
      | (exfalso; omega)
      | (simp only [sz0, sz1, sz2, sz3, sz4, sz5, sz6] at *; refine ⟨isBlk_iff.2 ?_, by omega, by omega⟩; simp only [sz0, sz1, sz2, sz3, sz4, sz5, sz6]; omega)

theorem sz_lt {a b : Int} (a0 : 0 ≤ a) (b6 : b ≤ 6) (h : a < b) : 2 * sz a ≤ sz b := by
  rcases ord_cases a0 (by omega) with rfl | rfl | rfl | rfl | rfl | rfl | rfl <;> rcases ord_cases (show 0 ≤ b by omega) b6 with rfl | rfl | rfl | rfl | rfl | rfl | rfl <;> simp only [sz0, sz1, sz2, sz3, sz4, sz5, sz6] <;> omega

theorem split_at {l : List (Int × Int)} {i : Nat} (hi : i < l.length) : l = l.take i ++ [l.getD i (0, 0)] ++ l.drop (i + 1) := by
  have hg : l.getD i (0, 0) = l[i] := by rw [List.getD_eq_getElem?_getD, List.getElem?_eq_getElem hi]; rfl
  rw [hg, List.append_assoc, List.singleton_append, ← List.drop_eq_getElem_cons hi, List.take_append_drop]

/-- A block in the list parted: the rest is right, and has the frames but for those taken. -/
theorem part_good {A B : List (Int × Int)} {x y o : Int} (hg : Good (A ++ [(x, y)] ++ B)) (o0 : 0 ≤ o) (oy : o ≤ y) :
    Good (A ++ partL x o (y - o).toNat ++ B) ∧ isBlk x o = true ∧ (∀ k, covL (A ++ [(x, y)] ++ B) k ↔ covL (A ++ partL x o (y - o).toNat ++ B) k ∨ cov (x, o) k) ∧ (∀ k, covL (A ++ partL x o (y - o).toNat ++ B) k → ¬ cov (x, o) k) := by
  obtain ⟨hA, hP⟩ := hg
  have hxy : isBlk x y = true := hA (x, y) (by simp)
  obtain ⟨b0, b6, bx0, bx, bm⟩ := isBlk_iff.1 hxy
  have hsy := sz_bd b0 b6
  have hso := sz_bd o0 (show o ≤ 6 by omega)
  have hsoy := sz_le o0 b6 oy
  rw [List.pairwise_append, List.pairwise_append] at hP
  obtain ⟨⟨pA, -, pAx⟩, pB, pAB⟩ := hP
  have hxo : isBlk x o = true := by
    by_cases h : o = y
    · rw [h]; exact hxy
    · obtain ⟨-, h1, h2⟩ := half_facts hxy o0 (show o < y by omega)
      refine isBlk_iff.2 ⟨o0, by omega, bx0, by omega, ?_⟩
      obtain ⟨c, hc⟩ := Int.dvd_of_emod_eq_zero h2
      rw [hc, Int.mul_comm 2, Int.mul_assoc]
      exact Int.mul_emod_right _ _
  have hq : ∀ q ∈ partL x o (y - o).toNat, 0 ≤ q.2 ∧ o ≤ q.2 ∧ q.2 < y ∧ q.1 = x + sz q.2 := by
    intro q hq
    obtain ⟨i, hi, rfl⟩ := mem_partL.1 hq
    exact ⟨by simp only; omega, by simp only; omega, by simp only; omega, rfl⟩
  have hqb : ∀ q ∈ partL x o (y - o).toNat, isBlk q.1 q.2 = true ∧ q.1 + sz q.2 ≤ x + sz y ∧ x % (2 * sz q.2) = 0 := by
    intro q hq'
    obtain ⟨h1, h2, h3, h4⟩ := hq q hq'
    rw [h4]
    exact half_facts hxy h1 h3
  have hAx : ∀ p ∈ A, p.1 + sz p.2 ≤ x := fun p hp => (pAx p hp (x, y) (by simp)).1
  have hxB : ∀ q ∈ B, x + sz y ≤ q.1 := fun q hq => (pAB (x, y) (by simp) q hq).1
  refine ⟨⟨?_, ?_⟩, hxo, ?_, ?_⟩
  · intro p hp
    rw [List.mem_append, List.mem_append] at hp
    rcases hp with (hp | hp) | hp
    · exact hA p (by simp [hp])
    · exact (hqb p hp).1
    · exact hA p (by simp [hp])
  · rw [List.pairwise_append, List.pairwise_append]
    refine ⟨⟨pA, ?_, ?_⟩, pB, ?_⟩
    · unfold partL
      rw [List.pairwise_map]
      have hr : (List.range (y - o).toNat).Pairwise (fun a b => a < b) := List.pairwise_lt_range
      refine List.Pairwise.imp_of_mem (fun {a b} ha hb hab => ?_) hr
      rw [List.mem_range] at ha hb
      have h1 := sz_lt (show 0 ≤ o + (a : Int) by omega) (show o + (b : Int) ≤ 6 by omega) (by omega)
      refine ⟨by simp only; omega, ?_⟩
      unfold areB
      simp only [Bool.and_eq_false_iff, beq_eq_false_iff_ne]
      left
      omega
    · intro p hp q hq'
      have h1 := hAx p hp
      obtain ⟨q1, q2, q3, q4⟩ := hq q hq'
      obtain ⟨r1, r2, r3⟩ := hqb q hq'
      have hpb := hA p (by simp [hp])
      have hps := blk_pos hpb
      have hqs := blk_pos r1
      refine ⟨by omega, ?_⟩
      rw [Bool.eq_false_iff]
      intro hbud
      obtain ⟨e, ⟨-, e2⟩ | ⟨-, e2⟩⟩ := (bud_iff hpb r1).1 hbud
      · rw [e] at e2 hps h1; omega
      · rw [e] at e2; omega
    · intro p hp q hqB
      have h1 := hxB q hqB
      rw [List.mem_append] at hp
      rcases hp with hp | hp
      · exact pAB p (by simp [hp]) q hqB
      · obtain ⟨q1, q2, q3, q4⟩ := hq p hp
        obtain ⟨r1, r2, r3⟩ := hqb p hp
        have hqb' := hA q (by simp [hqB])
        have hps := blk_pos r1
        refine ⟨by omega, ?_⟩
        rw [Bool.eq_false_iff]
        intro hbud
        obtain ⟨e, ⟨e1, -⟩ | ⟨-, e2⟩⟩ := (bud_iff r1 hqb').1 hbud
        · rw [q4, Int.add_emod, r3, Int.zero_add, Int.emod_emod_of_dvd _ (Int.dvd_refl _), Int.emod_eq_of_lt (by omega) (by omega)] at e1
          omega
        · omega
  · intro k
    rw [covL_append, covL_append, covL_append, covL_append, covL_one, cov_partL x o o0 k]
    rw [show o + (((y - o).toNat : Nat) : Int) = y by omega]
    unfold cov
    simp only
    constructor
    · rintro ((h | h) | h)
      · exact Or.inl (Or.inl (Or.inl h))
      · by_cases hk : k < x + sz o
        · exact Or.inr ⟨h.1, hk⟩
        · exact Or.inl (Or.inl (Or.inr ⟨by omega, h.2⟩))
      · exact Or.inl (Or.inr h)
    · rintro (((h | h) | h) | h)
      · exact Or.inl (Or.inl h)
      · exact Or.inl (Or.inr ⟨by omega, h.2⟩)
      · exact Or.inr h
      · exact Or.inl (Or.inr ⟨h.1, by omega⟩)
  · intro k hk hc
    rw [covL_append, covL_append, cov_partL x o o0 k] at hk
    unfold cov at hc
    simp only at hc
    rcases hk with (⟨p, hp, h1, h2⟩ | h) | ⟨p, hp, h1, h2⟩
    · have := hAx p hp; omega
    · omega
    · have := hxB p hp; omega

/-- What Take answers where it takes. -/
theorem take_good {l : List (Int × Int)} {o : Int} (h : takeE l o = 0) :
    rightB l = true ∧ Good (takeL l o) ∧ isBlk (takeAt l o) o = true ∧ (∀ k, covL l k ↔ covL (takeL l o) k ∨ cov (takeAt l o, o) k) ∧ (∀ k, covL (takeL l o) k → ¬ cov (takeAt l o, o) k) ∧
    ∃ (A B : List (Int × Int)) (x y : Int), l = A ++ [(x, y)] ++ B ∧ 0 ≤ o ∧ o ≤ y ∧ takeL l o = A ++ partL x o (y - o).toNat ++ B ∧ takeAt l o = x := by
  have hh : rightB l = true ∧ isOrd o = true ∧ 0 ≤ bst o l l.length := by
    unfold takeE at h
    split at h
    · split at h
      · split at h
        · rename_i h1 h2 h3; exact ⟨h1, h2, h3⟩
        · omega
      · omega
    · omega
  obtain ⟨hr, ho, hb⟩ := hh
  have hbd := bst_bd o l l.length
  have hge := bst_ge o l l.length hb
  have hoo : 0 ≤ o ∧ o ≤ 6 := by simpa [isOrd] using ho
  obtain ⟨i, hi⟩ : ∃ i : Nat, bst o l l.length = i := ⟨_, (Int.toNat_of_nonneg hb).symm⟩
  rw [hi] at hbd hge
  rw [Int.toNat_natCast] at hge
  have hil : i < l.length := by omega
  have hL : takeL l o = l.take i ++ partL (l.getD i (0, 0)).1 o ((l.getD i (0, 0)).2 - o).toNat ++ l.drop (i + 1) := by simp [takeL, hr, ho, hi]
  have hAt : takeAt l o = (l.getD i (0, 0)).1 := by simp [takeAt, hr, ho, hi]
  have hsp := split_at hil
  have hg := good_of_right hr
  obtain ⟨⟨x, y⟩, hp⟩ : ∃ p, l.getD i (0, 0) = p := ⟨_, rfl⟩
  rw [hp] at hL hAt hsp hge
  simp only at hL hAt hge
  rw [hsp] at hg
  obtain ⟨g1, g2, g3, g4⟩ := part_good hg hoo.1 hge
  rw [← hL] at g1 g3 g4
  rw [← hsp] at g3
  rw [hAt]
  exact ⟨hr, g1, g2, g3, g4, l.take i, l.drop (i + 1), x, y, hsp, hoo.1, hge, hL, rfl⟩

theorem takeL_bad {l : List (Int × Int)} {o : Int} (h : takeE l o ≠ 0) : takeL l o = [] := by
  unfold takeL
  rw [if_neg]
  intro hc
  simp only [Bool.and_eq_true, decide_eq_true_eq] at hc
  exact h (by simp [takeE, hc.1.1, hc.1.2, hc.2])

theorem take_len (l : List (Int × Int)) (o : Int) : (takeL l o).length ≤ 64 := by
  by_cases h : takeE l o = 0
  · exact right_len (right_of_good (take_good h).2.1)
  · rw [takeL_bad h]; simp

/-- What was taken and given back is as it was. -/
theorem take_give {l : List (Int × Int)} {o : Int} (h : takeE l o = 0) : giveE (takeL l o) (takeAt l o) o = 0 ∧ giveL (takeL l o) (takeAt l o) o = l := by
  obtain ⟨hr, g1, g2, g3, g4, -⟩ := take_good h
  have hm : (takeL l o).any (meets (takeAt l o) o) = false := by
    rw [Bool.eq_false_iff]
    intro hc
    obtain ⟨k, k1, k2⟩ := (meets_iff g2 g1.1).1 hc
    exact g4 k k1 k2
  have hr2 := right_of_good g1
  refine ⟨by simp [giveE, hr2, g2, hm], ?_⟩
  obtain ⟨f1, f2⟩ := give_good hr2 g2 hm
  exact good_unique f1 (good_of_right hr) (fun k => (f2 k).trans (g3 k).symm)

/-- How many frames a list has. -/
def sumSz : List (Int × Int) → Int
  | [] => 0
  | p :: r => sz p.2 + sumSz r

theorem sumSz_append : ∀ l m, sumSz (l ++ m) = sumSz l + sumSz m
  | [], m => by simp [sumSz]
  | p :: r, m => by simp [sumSz, sumSz_append r m]; omega

theorem sumSz_part (x o : Int) (h0 : 0 ≤ o) : ∀ k : Nat, sumSz (partL x o k) = sz (o + k) - sz o
  | 0 => by simp [partL, sumSz]
  | k + 1 => by
    rw [partL_succ, sumSz_append, sumSz_part x o h0 k]
    have hs : sz (o + ((k + 1 : Nat) : Int)) = 2 * sz (o + k) := by
      rw [show o + ((k + 1 : Nat) : Int) = o + (k : Int) + 1 by omega]
      exact sz_succ (by omega)
    rw [hs]
    simp [sumSz]
    omega

theorem take_sum {l : List (Int × Int)} {o : Int} (h : takeE l o = 0) : sumSz (takeL l o) = sumSz l - sz o := by
  obtain ⟨-, -, -, -, -, A, B, x, y, hl, h0, hy, hL, -⟩ := take_good h
  rw [hL]
  conv => rhs; rw [hl]
  rw [sumSz_append, sumSz_append, sumSz_append, sumSz_append, sumSz_part x o h0, show o + (((y - o).toNat : Nat) : Int) = y by omega]
  simp [sumSz]
  omega

theorem sumSz_bd {l : List (Int × Int)} (h : AllBlk l) : 0 ≤ sumSz l ∧ sumSz l ≤ 64 * l.length := by
  induction l with
  | nil => simp [sumSz]
  | cons p r ih =>
    have hb := isBlk_iff.1 (h p (by simp))
    have hs := sz_bd hb.1 hb.2.1
    have := ih (fun q hq => h q (by simp [hq]))
    simp only [sumSz, List.length_cons]
    omega

end Go.Proofs.Yticmloddkngfnah

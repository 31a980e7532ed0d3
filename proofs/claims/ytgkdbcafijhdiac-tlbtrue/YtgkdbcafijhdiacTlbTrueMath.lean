/- What is remembered of a page is what was said of it last; no page is remembered twice. -/
import Derived.Test.YtgkdbcafijhdiacTlb6
namespace Go.Proofs.Ytgkdbcafijhdiac
set_option linter.unusedSimpArgs false

/-- Whether x is said of c's page, or of all pages of its process. -/
def mt (c x : C4) : Bool := x.1 == c.1 && (x.2.1 == c.2.1 || decide (x.2.1 < 0))

/-- What was said last of c's page. -/
def lastOf (c : C4) (l : List C4) : C4 := l.foldl (fun s x => if mt c x then x else s) (0, -2, 0, 0)

theorem lastOf_snoc (c : C4) (l : List C4) (x : C4) : lastOf c (l ++ [x]) = if mt c x then x else lastOf c l := by simp [lastOf]

theorem lastOf_succ (c : C4) (l : List C4) (k : Nat) (hk : k < l.length) : lastOf c (l.take (k + 1)) = if mt c (l.getD k (0, 0, 0, 0)) then l.getD k (0, 0, 0, 0) else lastOf c (l.take k) := by
  rw [List.take_add_one, List.getElem?_eq_getElem hk, List.getD_eq_getElem?_getD, List.getElem?_eq_getElem hk]
  exact lastOf_snoc _ _ _

theorem mt_self (c : C4) : mt c c = true := by simp [mt]

theorem mt_tou (c x : C4) : mt c x = tou x c := by
  unfold mt tou
  by_cases h1 : x.1 = c.1 <;> by_cases h2 : x.2.1 = c.2.1 <;> by_cases h3 : x.2.1 < 0 <;> simp [h1, h2, h3]

theorem mem_hr {M : List C4} {x c : C4} (h : c ∈ hr M x) : c = x ∨ (c ∈ M ∧ tou x c = false) := by
  have hf : c ∈ fgt M x → c ∈ M ∧ tou x c = false := by
    intro h
    unfold fgt at h
    have := List.mem_filter.1 h
    exact ⟨this.1, by simpa using this.2⟩
  have ha : c ∈ fgt M x ++ [x] → c = x ∨ (c ∈ M ∧ tou x c = false) := by
    intro h
    rcases List.mem_append.1 h with h | h
    · exact Or.inr (hf h)
    · exact Or.inl (List.mem_singleton.1 h)
  unfold hr at h
  split at h
  · exact Or.inr (hf h)
  · split at h
    · exact ha (List.mem_of_mem_drop h)
    · exact ha h

theorem play_last_rev : ∀ (l : List C4) (c : C4), c ∈ play l.reverse → lastOf c l.reverse = c
  | [], c, h => by simp [play] at h
  | x :: r, c, h => by
    rw [List.reverse_cons, play_snoc] at h
    rw [List.reverse_cons, lastOf_snoc]
    rcases mem_hr h with rfl | ⟨h1, h2⟩
    · rw [if_pos (mt_self c)]
    · rw [mt_tou, h2, if_neg (by decide)]
      exact play_last_rev r c h1

theorem play_last {l : List C4} {c : C4} (h : c ∈ play l) : lastOf c l = c := by
  have := play_last_rev l.reverse c
  rw [List.reverse_reverse] at this
  exact this h

/-- Whether they are of one page. -/
def sm (c x : C4) : Bool := x.1 == c.1 && x.2.1 == c.2.1

theorem hr_apart {M : List C4} (x : C4) (h : M.Pairwise fun p q => sm q p = false) : (hr M x).Pairwise fun p q => sm q p = false := by
  have hf : (fgt M x).Pairwise fun p q => sm q p = false := List.Pairwise.sublist List.filter_sublist h
  have ha : (fgt M x ++ [x]).Pairwise fun p q => sm q p = false := by
    rw [List.pairwise_append]
    refine ⟨hf, List.pairwise_singleton _ _, ?_⟩
    intro p hp q hq
    rw [List.mem_singleton.1 hq]
    unfold fgt at hp
    have ht : tou x p = false := by simpa using (List.mem_filter.1 hp).2
    rw [Bool.eq_false_iff]
    intro hs
    simp only [sm, Bool.and_eq_true, beq_iff_eq] at hs
    simp [tou, hs.1, hs.2] at ht
  unfold hr
  split
  · exact hf
  · split
    · exact List.Pairwise.sublist (List.drop_sublist _ _) ha
    · exact ha

theorem play_apart_rev : ∀ l : List C4, (play l.reverse).Pairwise fun p q => sm q p = false
  | [] => by simp [play]
  | x :: r => by
    rw [List.reverse_cons, play_snoc]
    exact hr_apart x (play_apart_rev r)

theorem play_apart (l : List C4) (k : Nat) (hk : k < (play l).length) : ((play l).take k).any (sm ((play l).getD k (0, 0, 0, 0))) = false := by
  have h := play_apart_rev l.reverse
  rw [List.reverse_reverse] at h
  rw [List.any_eq_false]
  intro x hx
  obtain ⟨i, hi, rfl⟩ := List.mem_take_iff_getElem.1 hx
  rw [List.pairwise_iff_getElem] at h
  have := h i k (by omega) hk (by omega)
  rw [List.getD_eq_getElem?_getD, List.getElem?_eq_getElem hk]
  simpa using this

theorem play_at (l : List C4) (k : Nat) (hk : k < (play l).length) : lastOf ((play l).getD k (0, 0, 0, 0)) l = (play l).getD k (0, 0, 0, 0) := by
  apply play_last
  rw [List.getD_eq_getElem?_getD, List.getElem?_eq_getElem hk]
  exact List.getElem_mem hk

end Go.Proofs.Ytgkdbcafijhdiac

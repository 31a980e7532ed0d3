/- What one process remembers is the same without what others do, where there is room. -/
import Derived.Test.YtgkdbcafijhdiadTlbDelete
namespace Go.Proofs.Ytgkdbcafijhdiad
set_option linter.unusedSimpArgs false

/-- Whether it is told of an entry. -/
def tel (c : C4) : Bool := !(c.2.2.1 == 0)

/-- Whether it is that process's. -/
def mne (pr : Int) (c : C4) : Bool := c.1 == pr

/-- How many there are among these. -/
def cnt (l : List C4) : Nat := (l.filter tel).length

theorem cnt_snoc (l : List C4) (c : C4) : cnt (l ++ [c]) = cnt l + if tel c then 1 else 0 := by
  unfold cnt
  rw [List.filter_append, List.length_append]
  cases h : tel c <;> simp [h]

theorem hr_len (M : List C4) (c : C4) : (hr M c).length ≤ M.length + if tel c then 1 else 0 := by
  have := fgt_le M c
  unfold hr
  split
  · omega
  · rename_i h
    have ht : tel c = true := by
      unfold tel
      simp only [Bool.not_eq_true', beq_eq_false_iff_ne]
      omega
    rw [ht]
    split <;> simp <;> omega

theorem play_len_rev : ∀ l : List C4, (play l.reverse).length ≤ cnt l.reverse
  | [] => by simp [play]
  | c :: r => by
    rw [List.reverse_cons, play_snoc, cnt_snoc]
    have := play_len_rev r
    have := hr_len (play r.reverse) c
    omega

theorem play_len (l : List C4) : (play l).length ≤ cnt l := by
  have := play_len_rev l.reverse
  rwa [List.reverse_reverse] at this

/-- Where there is room nothing is pushed out. -/
theorem hr_room {M : List C4} {c : C4} (h : M.length + (if tel c then 1 else 0) ≤ 8) : hr M c = fgt M c ++ if c.2.1 < 0 ∨ c.2.2.1 = 0 then [] else [c] := by
  unfold hr
  split
  · simp
  · rename_i h1
    have ht : tel c = true := by
      unfold tel
      simp only [Bool.not_eq_true', beq_eq_false_iff_ne]
      omega
    rw [ht] at h
    have := fgt_le M c
    simp only [if_true] at h
    rw [if_neg (by omega)]

theorem filter_cnt (p : C4 → Bool) (l : List C4) : cnt (l.filter p) ≤ cnt l := by
  unfold cnt
  have e : (l.filter p).filter tel = (l.filter tel).filter p := by
    rw [List.filter_filter, List.filter_filter]
    congr 1
    funext a
    exact Bool.and_comm _ _
  rw [e]
  exact List.length_filter_le _ _

theorem keep_fgt (p : C4 → Bool) (M : List C4) (c : C4) : keepP p (fgt M c) = fgt (keepP p M) c := by
  unfold keepP fgt
  rw [List.filter_filter, List.filter_filter]
  congr 1
  funext a
  exact Bool.and_comm _ _

theorem fgt_other {pr : Int} {c : C4} (M : List C4) (h : mne pr c = false) : fgt (keepP (oth pr) M) c = keepP (oth pr) M := by
  unfold fgt
  rw [List.filter_eq_self]
  intro x hx
  have hx2 := (List.mem_filter.1 hx).2
  simp only [oth, mne, Bool.not_not, beq_iff_eq, beq_eq_false_iff_ne] at hx2 h
  unfold tou
  rw [decide_eq_false (by rw [hx2]; exact h)]
  rfl

theorem other_keep_rev (pr : Int) : ∀ l : List C4, cnt l.reverse ≤ 8 → keepP (oth pr) (play l.reverse) = play (l.reverse.filter (mne pr))
  | [], _ => rfl
  | c :: r, h => by
    rw [List.reverse_cons] at h ⊢
    rw [cnt_snoc] at h
    have ih := other_keep_rev pr r (by omega)
    have hl := play_len r.reverse
    rw [play_snoc, hr_room (by omega), List.filter_append]
    have e1 : keepP (oth pr) (fgt (play r.reverse) c ++ if c.2.1 < 0 ∨ c.2.2.1 = 0 then [] else [c]) = fgt (keepP (oth pr) (play r.reverse)) c ++ keepP (oth pr) (if c.2.1 < 0 ∨ c.2.2.1 = 0 then [] else [c]) := by
      rw [← keep_fgt]
      unfold keepP
      rw [List.filter_append]
    rw [e1]
    cases hm : mne pr c with
    | true =>
      have hf : [c].filter (mne pr) = [c] := by simp [hm]
      rw [hf, play_snoc, hr_room (by
        have h1 := play_len (r.reverse.filter (mne pr))
        have h2 := filter_cnt (mne pr) r.reverse
        omega), ih]
      congr 1
      have ho : oth pr c = false := by
        simp only [mne, beq_iff_eq] at hm
        simp [oth, hm]
      split
      · rfl
      · simp [keepP, ho]
    | false =>
      have hf : [c].filter (mne pr) = [] := by simp [hm]
      have ho : oth pr c = true := by
        simp only [mne, beq_eq_false_iff_ne] at hm
        simp [oth, hm]
      rw [hf, List.append_nil, fgt_other _ hm, ih]
      split
      · simp [keepP]
      · simp [keepP, ho]

theorem other_keep (pr : Int) (l : List C4) (h : cnt l ≤ 8) : keepP (oth pr) (play l) = play (l.filter (mne pr)) := by
  have := other_keep_rev pr l.reverse
  rw [List.reverse_reverse] at this
  exact this h

theorem cnt_succ (l : List C4) (k : Nat) (hk : k < l.length) : cnt (l.take (k + 1)) = cnt (l.take k) + if tel (l.getD k (0, 0, 0, 0)) then 1 else 0 := by
  rw [List.take_add_one, List.getElem?_eq_getElem hk, List.getD_eq_getElem?_getD, List.getElem?_eq_getElem hk]
  exact cnt_snoc _ _

theorem mne_succ (pr : Int) (l : List C4) (k : Nat) (hk : k < l.length) : (l.take (k + 1)).filter (mne pr) = (l.take k).filter (mne pr) ++ if mne pr (l.getD k (0, 0, 0, 0)) then [l.getD k (0, 0, 0, 0)] else [] := by
  rw [List.take_add_one, List.getElem?_eq_getElem hk, List.getD_eq_getElem?_getD, List.getElem?_eq_getElem hk, List.filter_append]
  congr 1
  simp only [Option.toList, Option.getD_some]
  cases h : mne pr l[k] <;> simp [h]

theorem cnt_le (l : List C4) (k : Nat) : cnt (l.take k) ≤ k := by
  unfold cnt
  have := List.length_filter_le tel (l.take k)
  rw [List.length_take] at this
  omega

theorem mne_le (pr : Int) (l : List C4) (k : Nat) : ((l.take k).filter (mne pr)).length ≤ k := by
  have := List.length_filter_le (mne pr) (l.take k)
  rw [List.length_take] at this
  omega

end Go.Proofs.Ytgkdbcafijhdiad

/- A device with slots, as a list: how often each is meant, its bytes and its tags; what Put, Get, Share and Drop answer; no program is named. -/
namespace Go.Proofs.Ytnmcbpanmjnegag
set_option linter.unusedVariables false
set_option linter.unusedSimpArgs false

/-- A slot: how often it is meant, its bytes, its tags. -/
abbrev Sl := Int × List Int × List Int

def z0 : Sl := (0, [], [])

/-- Slot n is there, and meant. -/
def mt (l : List Sl) (n : Int) : Bool := decide (0 ≤ n) && (decide (n < (l.length : Int)) && decide (1 ≤ (l.getD n.toNat z0).1))

theorem mt_iff {l : List Sl} {n : Int} : mt l n = true ↔ 0 ≤ n ∧ n < (l.length : Int) ∧ 1 ≤ (l.getD n.toNat z0).1 := by simp [mt]

theorem mt_nat {l : List Sl} {k : Nat} (hk : k < l.length) : mt l (k : Int) = decide (1 ≤ (l.getD k z0).1) := by
  unfold mt
  rw [Int.toNat_natCast, decide_eq_true (by omega), decide_eq_true (by omega)]
  simp

/-- The least slot that is not meant: place k. -/
def Least (l : List Sl) (k : Nat) : Prop := k < l.length ∧ (l.getD k z0).1 < 1 ∧ ∀ j, j < k → 1 ≤ (l.getD j z0).1

def AllM (l : List Sl) : Prop := ∀ j, j < l.length → 1 ≤ (l.getD j z0).1

theorem Least.unique {l : List Sl} {k j : Nat} (h : Least l k) (h2 : Least l j) : k = j := by
  rcases Nat.lt_trichotomy k j with h3 | h3 | h3
  · have := h2.2.2 k h3; have := h.2.1; omega
  · exact h3
  · have := h.2.2 j h3; have := h2.2.1; omega

theorem least_or (l : List Sl) : (∃ k, Least l k) ∨ AllM l := by
  have key : ∀ n, n ≤ l.length → (∃ k, Least l k) ∨ ∀ j, j < n → 1 ≤ (l.getD j z0).1 := by
    intro n
    induction n with
    | zero => exact fun _ => Or.inr fun j hj => by omega
    | succ n ih =>
      intro hn
      rcases ih (by omega) with h | h
      · exact Or.inl h
      · by_cases hp : 1 ≤ (l.getD n z0).1
        · refine Or.inr fun j hj => ?_
          by_cases he : j = n
          · rw [he]; exact hp
          · exact h j (by omega)
        · exact Or.inl ⟨n, by omega, by omega, h⟩
  exact key l.length (Nat.le_refl _)

def putOk (bs ts : List Int) (r : Int) : Bool := decide (bs.length = 64) && (decide (ts.length = 4) && (decide (1 ≤ r) && decide (r ≤ 4)))

/-- What Put answers. -/
def PutSays (l : List Sl) (bs ts : List Int) (r : Int) (m : List Sl) (n : Int) (e : Int) : Prop :=
  (putOk bs ts r = false ∧ m = [] ∧ n = 0 ∧ e = 2) ∨ (putOk bs ts r = true ∧ AllM l ∧ m = [] ∧ n = 0 ∧ e = 4) ∨
  (putOk bs ts r = true ∧ ∃ k, Least l k ∧ m = l.set k (r, bs, ts) ∧ n = (k : Int) ∧ e = 0)

theorem PutSays.unique {l : List Sl} {bs ts : List Int} {r : Int} {m m' : List Sl} {n n' e e' : Int} (h : PutSays l bs ts r m n e) (h2 : PutSays l bs ts r m' n' e') : m' = m ∧ n' = n ∧ e' = e := by
  rcases h with ⟨h0, rfl, rfl, rfl⟩ | ⟨h0, ha, rfl, rfl, rfl⟩ | ⟨h0, k, hk, rfl, rfl, rfl⟩ <;> rcases h2 with ⟨g0, rfl, rfl, rfl⟩ | ⟨g0, ga, rfl, rfl, rfl⟩ | ⟨g0, j, hj, rfl, rfl, rfl⟩
  · simp
  · rw [h0] at g0; cases g0
  · rw [h0] at g0; cases g0
  · rw [h0] at g0; cases g0
  · simp
  · have := ha j hj.1; have := hj.2.1; omega
  · rw [h0] at g0; cases g0
  · have := ga k hk.1; have := hk.2.1; omega
  · cases hk.unique hj; simp

/-- What Share answers. -/
def shE (l : List Sl) (n : Int) : Int := if mt l n = true then (if 4 ≤ (l.getD n.toNat z0).1 then 4 else 0) else 3
def shL (l : List Sl) (n : Int) : List Sl := if mt l n = true then (if 4 ≤ (l.getD n.toNat z0).1 then [] else l.set n.toNat ((l.getD n.toNat z0).1 + 1, (l.getD n.toNat z0).2)) else []

/-- A slot that is meant once less. -/
def less (s : Sl) : Sl := if s.1 - 1 = 0 then z0 else (s.1 - 1, s.2)

/-- What Drop answers. -/
def drE (l : List Sl) (n : Int) : Int := if mt l n = true then 0 else 3
def drL (l : List Sl) (n : Int) : List Sl := if mt l n = true then l.set n.toNat (less (l.getD n.toNat z0)) else []

/-- What Get answers. -/
def gtB (l : List Sl) (n : Int) : List Int := if mt l n = true then (l.getD n.toNat z0).2.1 else []
def gtT (l : List Sl) (n : Int) : List Int := if mt l n = true then (l.getD n.toNat z0).2.2 else []
def gtE (l : List Sl) (n : Int) : Int := if mt l n = true then 0 else 3

theorem getD_set_self {l : List Sl} {k : Nat} (hk : k < l.length) (s : Sl) : (l.set k s).getD k z0 = s := by
  rw [List.getD_eq_getElem?_getD, List.getElem?_set_self (by simpa using hk)]; rfl

theorem getD_set_other {l : List Sl} {k j : Nat} (h : k ≠ j) (s : Sl) : (l.set k s).getD j z0 = l.getD j z0 := by
  rw [List.getD_eq_getElem?_getD, List.getD_eq_getElem?_getD, List.getElem?_set_ne h]

theorem shL_len (l : List Sl) (n : Int) : (shL l n).length ≤ l.length := by unfold shL; split <;> (try split) <;> simp
theorem drL_len (l : List Sl) (n : Int) : (drL l n).length ≤ l.length := by unfold drL; split <;> simp

theorem shL_bad {l : List Sl} {n : Int} (h : shE l n ≠ 0) : shL l n = [] := by
  unfold shE at h; unfold shL
  split at h <;> rename_i h1
  · rw [if_pos h1]
    split at h <;> rename_i h2
    · rw [if_pos h2]
    · exact absurd rfl h
  · rw [if_neg h1]

/-- SHARED, AND DROPPED AGAIN, IT IS AS IT WAS. -/
theorem share_drop {l : List Sl} {n : Int} (h : shE l n = 0) : drE (shL l n) n = 0 ∧ drL (shL l n) n = l := by
  have h1 : mt l n = true := by
    cases h2 : mt l n with
    | true => rfl
    | false => rw [shE, h2] at h; simp at h
  have h3 : ¬ 4 ≤ (l.getD n.toNat z0).1 := by
    intro h3
    rw [shE, if_pos h1, if_pos h3] at h
    cases h
  obtain ⟨a, b, c⟩ := mt_iff.1 h1
  have hk : n.toNat < l.length := by omega
  have hL : shL l n = l.set n.toNat ((l.getD n.toNat z0).1 + 1, (l.getD n.toNat z0).2) := by rw [shL, if_pos h1, if_neg h3]
  have hm : mt (shL l n) n = true := by
    rw [hL, mt_iff, List.length_set, getD_set_self hk]
    exact ⟨a, b, by simp only; omega⟩
  refine ⟨by rw [drE, if_pos hm], ?_⟩
  rw [drL, if_pos hm, hL, getD_set_self hk, List.set_set]
  have e : less ((l.getD n.toNat z0).1 + 1, (l.getD n.toNat z0).2) = l.getD n.toNat z0 := by
    unfold less
    rw [if_neg (by simp only; omega)]
    simp only [Int.add_sub_cancel]
  rw [e, List.getD_eq_getElem?_getD, List.getElem?_eq_getElem hk, Option.getD_some, List.set_getElem_self]

/-- What is put is meant. -/
theorem put_mt {l : List Sl} {k : Nat} (hk : k < l.length) {s : Sl} (hs : 1 ≤ s.1) : mt (l.set k s) (k : Int) = true := by
  rw [mt_nat (by simpa using hk), getD_set_self hk]
  exact decide_eq_true hs

theorem put_gt {l : List Sl} {k : Nat} (hk : k < l.length) {s : Sl} (hs : 1 ≤ s.1) : gtB (l.set k s) k = s.2.1 ∧ gtT (l.set k s) k = s.2.2 ∧ gtE (l.set k s) k = 0 := by
  have h := put_mt hk hs
  refine ⟨?_, ?_, ?_⟩
  · rw [gtB, if_pos h, Int.toNat_natCast, getD_set_self hk]
  · rw [gtT, if_pos h, Int.toNat_natCast, getD_set_self hk]
  · rw [gtE, if_pos h]

/-- One more is gone. -/
theorem drop_more' {l : List Sl} {k : Nat} (hk : k < l.length) {s : Sl} (hs : 1 ≤ s.1) : drE (l.set k s) k = 0 ∧ drL (l.set k s) k = l.set k (less s) := by
  have h := put_mt hk hs
  refine ⟨by rw [drE, if_pos h], ?_⟩
  rw [drL, if_pos h, Int.toNat_natCast, getD_set_self hk, List.set_set]

/-- The device when c of r are gone. -/
def left (bs ts : List Int) (r c : Int) : Sl := if r - c = 0 then z0 else (r - c, bs, ts)

theorem left_zero {bs ts : List Int} {r : Int} (hr : 1 ≤ r) : left bs ts r 0 = (r, bs, ts) := by
  unfold left; rw [if_neg (by omega)]; simp
theorem left_all (bs ts : List Int) (r : Int) : left bs ts r r = z0 := by
  unfold left; rw [if_pos (by omega)]
theorem left_pos {bs ts : List Int} {r c : Int} (h : c < r) : left bs ts r c = (r - c, bs, ts) := by
  unfold left; rw [if_neg (by omega)]
theorem left_less {bs ts : List Int} {r c : Int} (h : c < r) : less (left bs ts r c) = left bs ts r (c + 1) := by
  rw [left_pos h]
  unfold less left
  simp only
  by_cases h1 : r - c - 1 = 0
  · rw [if_pos h1, if_pos (by omega)]
  · rw [if_neg h1, if_neg (by omega), show r - (c + 1) = r - c - 1 by omega]

theorem least_again {l : List Sl} {k : Nat} (h : Least l k) : Least (l.set k z0) k := by
  refine ⟨by simpa using h.1, by rw [getD_set_self h.1]; decide, fun j hj => ?_⟩
  rw [getD_set_other (by omega)]
  exact h.2.2 j hj

theorem put_again {l : List Sl} {k : Nat} {bs ts : List Int} {r : Int} (h : Least l k) (ho : putOk bs ts r = true) : PutSays (l.set k z0) bs ts r (l.set k (r, bs, ts)) k 0 :=
  Or.inr (Or.inr ⟨ho, k, least_again h, by rw [List.set_set], rfl, rfl⟩)

theorem gone {l : List Sl} {k : Nat} (h : k < l.length) : gtE (l.set k z0) k = 3 := by
  have : mt (l.set k z0) (k : Int) = false := by
    rw [mt_nat (by simpa using h), getD_set_self h]; rfl
  rw [gtE, this]; simp

theorem putOk_iff {bs ts : List Int} {r : Int} : putOk bs ts r = true ↔ bs.length = 64 ∧ ts.length = 4 ∧ 1 ≤ r ∧ r ≤ 4 := by simp [putOk]

end Go.Proofs.Ytnmcbpanmjnegag

/- The clock's hand, as it goes round: what is passed over, where it stops, and that everybody's turn comes; no program is named. -/
import Derived.WalkKit
namespace Go.Proofs.Ytidaoomhnfgckag
set_option linter.unusedSimpArgs false
set_option linter.unusedVariables false

/-- Where the hand stands, k places behind h, of n in a ring. -/
def ringP (n h k : Nat) : Nat := (h + k) % n

/-- What is used when the hand has gone k places on from h. -/
def passL (m u : List Bool) (h : Nat) : Nat → List Bool
  | 0 => u
  | k + 1 => if m.getD (ringP m.length h k) false = true then (passL m u h k).set (ringP m.length h k) false else passL m u h k

/-- The hand, having gone k places, is at one that is told. -/
def stopB (m u : List Bool) (h k : Nat) : Bool := m.getD (ringP m.length h k) false && !(passL m u h k).getD (ringP m.length h k) false

theorem ringP_lt {n h k : Nat} (hn : 0 < n) : ringP n h k < n := Nat.mod_lt _ hn
theorem ringP_zero {n h : Nat} (hh : h < n) : ringP n h 0 = h := Nat.mod_eq_of_lt hh
theorem ringP_turn (n h k : Nat) : ringP n h (n + k) = ringP n h k := by
  unfold ringP
  rw [show h + (n + k) = (h + k) + n by omega, Nat.add_mod_right]
theorem ringP_add (n h a b : Nat) : ringP n (ringP n h a) b = ringP n h (a + b) := by
  unfold ringP
  rw [Nat.mod_add_mod, Nat.add_assoc]
theorem ringP_succ (n h k : Nat) : ringP n h (k + 1) = (ringP n h k + 1) % n := (ringP_add n h k 1).symm

theorem ringP_next {n h k : Nat} (hn : 0 < n) : ringP n h (k + 1) = if ringP n h k = n - 1 then 0 else ringP n h k + 1 := by
  have := ringP_lt (h := h) (k := k) hn
  rw [ringP_succ]
  split
  · rename_i h1
    rw [h1, show n - 1 + 1 = n by omega, Nat.mod_self]
  · exact Nat.mod_eq_of_lt (by omega)

/-- Each place is met within a round. -/
theorem ringP_met {n h i : Nat} (hh : h < n) (hi : i < n) : ∃ j, j < n ∧ ringP n h j = i := by
  unfold ringP
  by_cases hle : h ≤ i
  · exact ⟨i - h, by omega, by rw [show h + (i - h) = i by omega]; exact Nat.mod_eq_of_lt hi⟩
  · refine ⟨i + n - h, by omega, ?_⟩
    rw [show h + (i + n - h) = i + n by omega, Nat.add_mod_right]
    exact Nat.mod_eq_of_lt hi

/-- No place is met twice within a round. -/
theorem ringP_inj {n h j k : Nat} (hh : h < n) (hjk : j < k) (hk : k < n) : ringP n h j ≠ ringP n h k := by
  unfold ringP
  have e : ∀ a, a < n + n → a % n = if a < n then a else a - n := by
    intro a ha
    split
    · exact Nat.mod_eq_of_lt (by omega)
    · rw [Nat.mod_eq_sub_mod (by omega)]
      exact Nat.mod_eq_of_lt (by omega)
  rw [e (h + j) (by omega), e (h + k) (by omega)]
  split <;> split <;> omega

theorem passL_len (m u : List Bool) (h : Nat) : ∀ k, (passL m u h k).length = u.length
  | 0 => rfl
  | k + 1 => by
    rw [passL]
    split
    · rw [List.length_set]; exact passL_len m u h k
    · exact passL_len m u h k

theorem getD_set_eq (l : List Bool) (i : Nat) : (l.set i false).getD i false = false := by
  rw [List.getD_eq_getElem?_getD, List.getElem?_set]
  simp only [if_true]
  split <;> rfl

theorem getD_set_ne (l : List Bool) {i j : Nat} (h : i ≠ j) : (l.set i false).getD j false = l.getD j false := by
  rw [List.getD_eq_getElem?_getD, List.getD_eq_getElem?_getD, List.getElem?_set_ne h]

theorem set_same (l : List Bool) {i : Nat} (h : l.getD i false = false) : l.set i false = l := by
  apply List.ext_getElem?
  intro j
  by_cases hij : i = j
  · subst hij
    rw [List.getElem?_set]
    simp only [if_true]
    split
    · rename_i hl
      rw [List.getD_eq_getElem?_getD, List.getElem?_eq_getElem hl] at h
      rw [List.getElem?_eq_getElem hl]
      simpa using h.symm
    · rename_i hl
      rw [List.getElem?_eq_none (by omega)]
  · rw [List.getElem?_set_ne hij]

/-- What isn't met is as it was. -/
theorem pass_keep {m u : List Bool} {h i : Nat} : ∀ {k : Nat}, (∀ j, j < k → ringP m.length h j ≠ i) → (passL m u h k).getD i false = u.getD i false
  | 0, _ => rfl
  | k + 1, hk => by
    rw [passL]
    have ih := pass_keep (m := m) (u := u) (h := h) (i := i) (k := k) (fun j hj => hk j (by omega))
    split
    · rw [getD_set_ne _ (hk k (by omega))]; exact ih
    · exact ih

/-- What may not be told is as it was. -/
theorem pass_may {m u : List Bool} {h i : Nat} (hi : m.getD i false = false) : ∀ k, (passL m u h k).getD i false = u.getD i false
  | 0 => rfl
  | k + 1 => by
    rw [passL]
    have ih := pass_may (u := u) (h := h) hi k
    split
    · rename_i hm
      rw [getD_set_ne _ (by intro e; rw [e, hi] at hm; cases hm)]; exact ih
    · exact ih

/-- Nobody's use is made up. -/
theorem pass_le {m u : List Bool} {h i : Nat} (hi : u.getD i false = false) : ∀ k, (passL m u h k).getD i false = false
  | 0 => hi
  | k + 1 => by
    rw [passL]
    have ih := pass_le (m := m) (h := h) hi k
    split
    · by_cases e : ringP m.length h k = i
      · rw [e]; exact getD_set_eq _ _
      · rw [getD_set_ne _ e]; exact ih
    · exact ih

/-- What was met, and may, is used no longer. -/
theorem pass_off {m u : List Bool} {h i j : Nat} (hi : m.getD i false = true) (hj : ringP m.length h j = i) : ∀ {k : Nat}, j < k → (passL m u h k).getD i false = false
  | 0, hk => by omega
  | k + 1, hk => by
    rw [passL]
    by_cases e : ringP m.length h k = i
    · rw [e, if_pos hi]; exact getD_set_eq _ _
    · have ih := pass_off (u := u) hi hj (k := k) (by
        rcases Nat.lt_succ_iff_lt_or_eq.1 hk with h1 | h1
        · exact h1
        · exact absurd (h1 ▸ hj) e)
      split
      · rw [getD_set_ne _ e]; exact ih
      · exact ih

/-- Two walks, one behind the other, are one. -/
theorem pass_add (m u : List Bool) (h a : Nat) : ∀ k, passL m (passL m u h a) (ringP m.length h a) k = passL m u h (a + k)
  | 0 => rfl
  | k + 1 => by
    rw [passL, ringP_add, pass_add m u h a k, ← Nat.add_assoc, passL]

theorem stop_add (m u : List Bool) (h a k : Nat) : stopB m (passL m u h a) (ringP m.length h a) k = stopB m u h (a + k) := by
  unfold stopB
  rw [ringP_add, pass_add]

theorem stop_may {m u : List Bool} {h k : Nat} (hs : stopB m u h k = true) : m.getD (ringP m.length h k) false = true ∧ (passL m u h k).getD (ringP m.length h k) false = false := by
  unfold stopB at hs
  simpa using hs

theorem stop_of {m u : List Bool} {h k : Nat} (h1 : m.getD (ringP m.length h k) false = true) (h2 : (passL m u h k).getD (ringP m.length h k) false = false) : stopB m u h k = true := by
  unfold stopB
  rw [h1, h2]; rfl

/-- In the first round it is told who was not used. -/
theorem stop_first {m u : List Bool} {h k : Nat} (hh : h < m.length) (hk : k < m.length) : stopB m u h k = (m.getD (ringP m.length h k) false && !u.getD (ringP m.length h k) false) := by
  unfold stopB
  rw [pass_keep (fun j hj => ringP_inj hh hj hk)]

/-- In the second one whoever may. -/
theorem stop_second {m u : List Bool} {h k : Nat} (hh : h < m.length) (hm : m.getD (ringP m.length h k) false = true) : stopB m u h (m.length + k) = true := by
  apply stop_of
  · rw [ringP_turn]; exact hm
  · rw [ringP_turn]
    exact pass_off hm rfl (by omega)

/-- Behind a stop nothing is another one. -/
theorem pass_stop {m u : List Bool} {h k : Nat} (hs : stopB m u h k = true) : passL m u h (k + 1) = passL m u h k := by
  rw [passL]
  split
  · exact set_same _ (stop_may hs).2
  · rfl

theorem least {p : Nat → Bool} : ∀ k, p k = true → ∃ K, K ≤ k ∧ p K = true ∧ ∀ j, j < K → p j = false
  | k, hk => by
    by_cases h : ∃ j, j < k ∧ p j = true
    · obtain ⟨j, hj, hp⟩ := h
      obtain ⟨K, h1, h2, h3⟩ := least j hp
      exact ⟨K, by omega, h2, h3⟩
    · exact ⟨k, Nat.le_refl _, hk, fun j hj => by
        cases e : p j
        · rfl
        · exact absurd ⟨j, hj, e⟩ h⟩

/-- The first stop: K places on. -/
def Stops (m u : List Bool) (h K : Nat) : Prop := stopB m u h K = true ∧ ∀ j, j < K → stopB m u h j = false

theorem Stops.unique {m u : List Bool} {h K L : Nat} (a : Stops m u h K) (b : Stops m u h L) : K = L := by
  rcases Nat.lt_trichotomy K L with h1 | h1 | h1
  · have := b.2 K h1; rw [a.1] at this; cases this
  · exact h1
  · have := a.2 L h1; rw [b.1] at this; cases this

theorem mem_place {m : List Bool} (h : true ∈ m) : ∃ i, i < m.length ∧ m.getD i false = true := by
  obtain ⟨i, hi, e⟩ := List.getElem_of_mem h
  exact ⟨i, hi, by rw [List.getD_eq_getElem?_getD, List.getElem?_eq_getElem hi, e]; rfl⟩

theorem place_mem {m : List Bool} {i : Nat} (h : m.getD i false = true) : true ∈ m := by
  rw [List.getD_eq_getElem?_getD] at h
  cases e : m[i]? with
  | none => rw [e] at h; cases h
  | some b =>
    rw [e] at h
    simp at h
    subst h
    exact List.mem_of_getElem? e

theorem stops_some {m u : List Bool} {h : Nat} (hh : h < m.length) (hm : true ∈ m) : ∃ K, Stops m u h K := by
  obtain ⟨i, hi, hm⟩ := mem_place hm
  obtain ⟨j, hj, e⟩ := ringP_met hh hi
  obtain ⟨K, -, h2, h3⟩ := least (p := stopB m u h) (m.length + j) (stop_second hh (by rw [e]; exact hm))
  exact ⟨K, h2, h3⟩

/-- What Next answers: the place, the one behind it, what is used then, the error. -/
def Says (hand : Int) (m u : List Bool) (a b : Int) (L : List Bool) (e : Int) : Prop :=
  (m.length ≠ u.length ∧ a = 0 ∧ b = 0 ∧ L = [] ∧ e = 1) ∨
  (m.length = u.length ∧ ¬(0 ≤ hand ∧ hand < m.length) ∧ a = 0 ∧ b = 0 ∧ L = [] ∧ e = 2) ∨
  (m.length = u.length ∧ (0 ≤ hand ∧ hand < m.length) ∧ ¬ true ∈ m ∧ a = 0 ∧ b = 0 ∧ L = [] ∧ e = 3) ∨
  (m.length = u.length ∧ (0 ≤ hand ∧ hand < m.length) ∧ true ∈ m ∧ e = 0 ∧ ∃ K, Stops m u hand.toNat K ∧ a = ringP m.length hand.toNat K ∧ b = ringP m.length hand.toNat (K + 1) ∧ L = passL m u hand.toNat K)

theorem Says.unique {hand : Int} {m u : List Bool} {a b a' b' : Int} {L L' : List Bool} {e e' : Int} (h : Says hand m u a b L e) (h' : Says hand m u a' b' L' e') : e = e' ∧ a = a' ∧ b = b' ∧ L = L' := by
  rcases h with ⟨h1, h2⟩ | ⟨h1, h2, h3⟩ | ⟨h1, h2, h3, h4⟩ | ⟨h1, h2, h3, h4, K, hK, h5⟩ <;>
  rcases h' with ⟨g1, g2⟩ | ⟨g1, g2, g3⟩ | ⟨g1, g2, g3, g4⟩ | ⟨g1, g2, g3, g4, K', gK, g5⟩
  case inl.inl => exact ⟨by omega, by omega, by omega, by rw [h2.2.2.1, g2.2.2.1]⟩
  case inr.inl.inr.inl => exact ⟨by omega, by omega, by omega, by rw [h3.2.2.1, g3.2.2.1]⟩
  case inr.inr.inl.inr.inr.inl => exact ⟨by omega, by omega, by omega, by rw [h4.2.2.1, g4.2.2.1]⟩
  case inr.inr.inr.inr.inr.inr =>
    obtain rfl := hK.unique gK
    exact ⟨by omega, by rw [h5.1, g5.1], by rw [h5.2.1, g5.2.1], by rw [h5.2.2, g5.2.2]⟩
  all_goals exfalso
  all_goals first | exact h1 g1 | exact g1 h1 | exact h2 g2 | exact g2 h2 | exact h3 g3 | exact g3 h3

/-- One that was not used is taken, if there is one; nobody who may not; and nobody's use is made up. -/
theorem spares {hand : Int} {m u : List Bool} {a b : Int} {L : List Bool} {e : Int} (h : Says hand m u a b L e) :
    (e ≠ 0 → L = []) ∧ (e = 0 → L.length = u.length ∧ m.length = u.length ∧ ∃ v : Nat, a = v ∧ v < m.length ∧ m.getD v false = true ∧ L.getD v false = false ∧
      ∀ k, k < m.length → (m.getD k false = true → u.getD k false = false → u.getD v false = false) ∧ (u.getD k false = false → L.getD k false = false) ∧ (m.getD k false = false → L.getD k false = u.getD k false)) := by
  rcases h with ⟨h1, h2⟩ | ⟨h1, h2, h3⟩ | ⟨h1, h2, h3, h4⟩ | ⟨h1, h2, h3, h4, K, hK, rfl, rfl, rfl⟩
  · exact ⟨fun _ => h2.2.2.1, fun h => by omega⟩
  · exact ⟨fun _ => h3.2.2.1, fun h => by omega⟩
  · exact ⟨fun _ => h4.2.2.1, fun h => by omega⟩
  · have hn : hand.toNat < m.length := by omega
    refine ⟨fun h => absurd h4 h, fun _ => ⟨passL_len _ _ _ _, h1, _, rfl, ringP_lt (by omega), (stop_may hK.1).1, (stop_may hK.1).2, fun k hk => ⟨fun hm hu => ?_, fun hu => pass_le hu _, fun hm => pass_may hm _⟩⟩⟩
    obtain ⟨j, hj, rfl⟩ := ringP_met hn hk
    have hs : stopB m u hand.toNat j = true := by rw [stop_first hn hj, hm, hu]; rfl
    have hKj : K ≤ j := by
      rcases Nat.lt_or_ge j K with h | h
      · have := hK.2 j h; rw [hs] at this; cases this
      · exact h
    have := hK.1
    rw [stop_first hn (by omega)] at this
    simp at this
    exact List.getD_eq_getElem?_getD ▸ this.2

/-- Those that may, from the hand on, k places long. -/
def inP (m : List Bool) (h : Nat) : Nat → List Nat
  | 0 => []
  | k + 1 => if m.getD (ringP m.length h k) false = true then inP m h k ++ [ringP m.length h k] else inP m h k

theorem inP_len (m : List Bool) (h : Nat) : ∀ k, (inP m h k).length ≤ k
  | 0 => Nat.le_refl _
  | k + 1 => by
    have := inP_len m h k
    rw [inP]
    split
    · rw [List.length_append, List.length_singleton]; omega
    · omega

theorem inP_lt {m : List Bool} {h : Nat} (hh : h < m.length) : ∀ {k : Nat}, ∀ x ∈ inP m h k, x < m.length
  | 0, x, hx => by cases hx
  | k + 1, x, hx => by
    rw [inP] at hx
    split at hx
    · rcases List.mem_append.1 hx with h1 | h1
      · exact inP_lt hh x h1
      · rw [List.mem_singleton.1 h1]; exact ringP_lt (by omega)
    · exact inP_lt hh x hx

theorem inP_mem {m : List Bool} {h j : Nat} (hm : m.getD (ringP m.length h j) false = true) : ∀ {k : Nat}, j < k → ringP m.length h j ∈ inP m h k
  | 0, hk => by omega
  | k + 1, hk => by
    rw [inP]
    by_cases e : j = k
    · subst e
      rw [if_pos hm]
      exact List.mem_append_right _ (List.mem_singleton.2 rfl)
    · have ih := inP_mem hm (k := k) (by omega)
      split
      · exact List.mem_append_left _ ih
      · exact ih

/-- One of them: where the hand met it, and whom it had met by then. -/
theorem inP_at {m : List Bool} {h : Nat} : ∀ {k s : Nat}, s < (inP m h k).length → ∃ K, K < k ∧ m.getD (ringP m.length h K) false = true ∧ (inP m h k).getD s 0 = ringP m.length h K ∧ inP m h K = (inP m h k).take s
  | 0, s, hs => by simp [inP] at hs
  | k + 1, s, hs => by
    rw [inP] at hs ⊢
    split at hs
    · rename_i hm
      rw [if_pos hm]
      by_cases e : s < (inP m h k).length
      · obtain ⟨K, h1, h2, h3, h4⟩ := inP_at e
        refine ⟨K, by omega, h2, ?_, ?_⟩
        · rw [List.getD_eq_getElem?_getD, List.getElem?_append_left e, ← List.getD_eq_getElem?_getD]; exact h3
        · rw [List.take_append_of_le_length (by omega)]; exact h4
      · rw [List.length_append, List.length_singleton] at hs
        obtain rfl : s = (inP m h k).length := by omega
        exact ⟨k, by omega, hm, by simp, by simp⟩
    · rename_i hm
      rw [if_neg hm]
      obtain ⟨K, h1, h2⟩ := inP_at hs
      exact ⟨K, by omega, h2⟩

/-- All of these made unused. -/
def offL (u : List Bool) (l : List Nat) : List Bool := l.foldl (fun u i => u.set i false) u

theorem offL_snoc (u : List Bool) (l : List Nat) (i : Nat) : offL u (l ++ [i]) = (offL u l).set i false := by
  unfold offL
  rw [List.foldl_append]; rfl

theorem offL_len (l : List Nat) : ∀ u : List Bool, (offL u l).length = u.length := by
  induction l with
  | nil => intro u; rfl
  | cons x r ih => intro u; unfold offL at *; rw [List.foldl_cons, ih, List.length_set]

theorem offL_pass (m u : List Bool) (h : Nat) : ∀ k, offL u (inP m h k) = passL m u h k
  | 0 => rfl
  | k + 1 => by
    rw [inP, passL]
    split
    · rw [offL_snoc, offL_pass m u h k]
    · exact offL_pass m u h k

theorem in_none {m : List Bool} {h : Nat} (hh : h < m.length) (h0 : inP m h m.length = []) : ¬ true ∈ m := by
  intro hm
  obtain ⟨i, hi, hm⟩ := mem_place hm
  obtain ⟨j, hj, rfl⟩ := ringP_met hh hi
  have := inP_mem hm hj
  rw [h0] at this
  cases this

theorem in_some {m : List Bool} {h s : Nat} (hs : s < (inP m h m.length).length) : true ∈ m := by
  obtain ⟨K, _, hm, _⟩ := inP_at hs
  exact place_mem hm

/-- The first one that is not used. -/
theorem in_free {m u : List Bool} {h s : Nat} (hh : h < m.length) (hs : s < (inP m h m.length).length) (hu : u.getD ((inP m h m.length).getD s 0) false = false)
    (hb : ∀ j, j < s → u.getD ((inP m h m.length).getD j 0) false = true) :
    ∃ K, Stops m u h K ∧ (inP m h m.length).getD s 0 = ringP m.length h K ∧ offL u ((inP m h m.length).take s) = passL m u h K := by
  obtain ⟨K, h1, h2, h3, h4⟩ := inP_at hs
  refine ⟨K, ⟨?_, fun j hj => ?_⟩, h3, by rw [← h4, offL_pass]⟩
  · rw [stop_first hh h1, h2, ← h3, hu]; rfl
  · rw [stop_first hh (by omega)]
    cases e : m.getD (ringP m.length h j) false
    · rfl
    · have hin := inP_mem e hj
      rw [h4] at hin
      obtain ⟨x, hx, hxe⟩ := List.getElem_of_mem hin
      rw [List.length_take] at hx
      have := hb x (by omega)
      rw [List.getElem_take] at hxe
      have hx2 : x < (inP m h m.length).length := by omega
      have e2 : (inP m h m.length).getD x 0 = ringP m.length h j := by rw [List.getD_eq_getElem?_getD, List.getElem?_eq_getElem hx2, Option.getD_some, hxe]
      rw [e2] at this
      rw [this]; rfl

/-- When all were used: the first one from the hand on. -/
theorem in_used {m u : List Bool} {h : Nat} (hh : h < m.length) (hs : 0 < (inP m h m.length).length) (hb : ∀ j, j < (inP m h m.length).length → u.getD ((inP m h m.length).getD j 0) false = true) :
    ∃ K, Stops m u h K ∧ (inP m h m.length).getD 0 0 = ringP m.length h K ∧ offL u (inP m h m.length) = passL m u h K := by
  obtain ⟨K, h1, h2, h3, h4⟩ := inP_at hs
  have hno : ∀ j, j < K → m.getD (ringP m.length h j) false = false := by
    intro j hj
    cases e : m.getD (ringP m.length h j) false
    · rfl
    · have := inP_mem e hj
      rw [h4] at this
      cases this
  have hsame : ∀ j, j ≤ K → passL m u h (m.length + j) = passL m u h m.length := by
    intro j
    induction j with
    | zero => intro _; rfl
    | succ j ih =>
      intro hj
      rw [← Nat.add_assoc, passL, ringP_turn, hno j (by omega)]
      exact ih (by omega)
  refine ⟨m.length + K, ⟨stop_second hh h2, fun j hj => ?_⟩, by rw [ringP_turn]; exact h3, by rw [offL_pass, hsame K (Nat.le_refl _)]⟩
  by_cases hlt : j < m.length
  · rw [stop_first hh hlt]
    cases e : m.getD (ringP m.length h j) false
    · rfl
    · have hin := inP_mem e hlt
      obtain ⟨x, hx, hxe⟩ := List.getElem_of_mem hin
      have := hb x hx
      have e2 : (inP m h m.length).getD x 0 = ringP m.length h j := by rw [List.getD_eq_getElem?_getD, List.getElem?_eq_getElem hx, Option.getD_some, hxe]
      rw [e2] at this
      rw [this]; rfl
  · obtain ⟨t, rfl⟩ : ∃ t, j = m.length + t := ⟨j - m.length, by omega⟩
    unfold stopB
    rw [ringP_turn, hno t (by omega)]; rfl

/-- How often each one was told, when the hand has gone T places: not at all where it did not stop. -/
def Had (m u : List Bool) (h T : Nat) (c : List Nat) : Prop := c.length = m.length ∧ ∀ i, i < m.length → (0 < c.getD i 0 ↔ ∃ t, t < T ∧ ringP m.length h t = i ∧ stopB m u h t = true)

theorem had_zero (m u : List Bool) (h : Nat) : Had m u h 0 (List.replicate m.length 0) := by
  refine ⟨by simp, fun i hi => ?_⟩
  rw [List.getD_eq_getElem?_getD, List.getElem?_replicate_of_lt hi]
  simp

theorem had_more {m u : List Bool} {h T K : Nat} {c : List Nat} (hc : Had m u h T c) (hK : Stops m (passL m u h T) (ringP m.length h T) K) (hn : 0 < m.length) :
    Had m u h (T + K + 1) (c.set (ringP m.length h (T + K)) (c.getD (ringP m.length h (T + K)) 0 + 1)) := by
  refine ⟨by rw [List.length_set]; exact hc.1, fun i hi => ?_⟩
  have hv := ringP_lt (n := m.length) (h := h) (k := T + K) hn
  have hst : stopB m u h (T + K) = true := by rw [← stop_add]; exact hK.1
  by_cases e : ringP m.length h (T + K) = i
  · subst e
    rw [List.getD_eq_getElem?_getD, List.getElem?_set_self (by rw [hc.1]; exact hv)]
    exact ⟨fun _ => ⟨T + K, by omega, rfl, hst⟩, fun _ => by simp⟩
  · rw [List.getD_eq_getElem?_getD, List.getElem?_set_ne e, ← List.getD_eq_getElem?_getD, hc.2 i hi]
    constructor
    · rintro ⟨t, h1, h2⟩
      exact ⟨t, by omega, h2⟩
    · rintro ⟨t, h1, h2, h3⟩
      refine ⟨t, ?_, h2, h3⟩
      rcases Nat.lt_or_ge t T with h4 | h4
      · exact h4
      · obtain ⟨j, rfl⟩ : ∃ j, t = T + j := ⟨t - T, by omega⟩
        by_cases hj : j = K
        · subst hj; exact absurd h2 e
        · have := hK.2 j (by omega)
          rw [stop_add, h3] at this
          cases this

/-- Twice round: everybody's turn has come. -/
theorem had_all {m u : List Bool} {h T : Nat} {c : List Nat} (hh : h < m.length) (hc : Had m u h T c) (hT : 2 * m.length ≤ T) {i : Nat} (hi : i < m.length) : m.getD i false = true ↔ 0 < c.getD i 0 := by
  rw [hc.2 i hi]
  constructor
  · intro hm
    obtain ⟨j, hj, rfl⟩ := ringP_met hh hi
    exact ⟨m.length + j, by omega, ringP_turn _ _ _, stop_second hh hm⟩
  · rintro ⟨t, -, rfl, hs⟩
    exact (stop_may hs).1

/-- What a call tells at such a place of the walk. -/
theorem says_more {m u : List Bool} {h T : Nat} {a b : Int} {L : List Bool} {e : Int} (hh : h < m.length) (hl : m.length = u.length) (hm : true ∈ m) (hs : Says (ringP m.length h T : Nat) m (passL m u h T) a b L e) :
    ∃ K, Stops m (passL m u h T) (ringP m.length h T) K ∧ e = 0 ∧ a = (ringP m.length h (T + K) : Nat) ∧ b = (ringP m.length h (T + K + 1) : Nat) ∧ L = passL m u h (T + K + 1) := by
  have hr := ringP_lt (n := m.length) (h := h) (k := T) (by omega)
  rcases hs with ⟨h1, _⟩ | ⟨_, h2, _⟩ | ⟨_, _, h3, _⟩ | ⟨h1, h2, h3, h4, K, hK, rfl, rfl, rfl⟩
  · exact absurd (by rw [passL_len]; exact hl) h1
  · exact absurd ⟨by omega, by omega⟩ h2
  · exact absurd hm h3
  · rw [Int.toNat_natCast] at hK ⊢
    refine ⟨K, hK, h4, by rw [ringP_add], by rw [ringP_add, Nat.add_assoc], ?_⟩
    rw [pass_add]
    exact (pass_stop (by rw [← stop_add]; exact hK.1)).symm

end Go.Proofs.Ytidaoomhnfgckag

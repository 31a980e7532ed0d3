/- A process's four keys, as numbers and truths: which are taken, one that becomes another one, the first one that is free; no program is named. -/
import Derived.WalkKit
namespace Go.Proofs.Ytggecjfmgppciaf
set_option linter.unusedSimpArgs false
set_option linter.unusedVariables false

/-- Four keys: taken, and what it denies, of each. -/
abbrev K8 := Bool × Int × Bool × Int × Bool × Int × Bool × Int

/-- None is taken, nothing is denied. -/
def no8 : K8 := (false, 0, false, 0, false, 0, false, 0)

/-- Whether k is a key, and is taken. -/
def tk (l : K8) (k : Int) : Bool := if k = 0 then l.1 else if k = 1 then l.2.2.1 else if k = 2 then l.2.2.2.2.1 else if k = 3 then l.2.2.2.2.2.2.1 else false

/-- What key k denies. -/
def dy (l : K8) (k : Int) : Int := if k = 0 then l.2.1 else if k = 1 then l.2.2.2.1 else if k = 2 then l.2.2.2.2.2.1 else l.2.2.2.2.2.2.2

/-- Key k becomes another one. -/
def put (l : K8) (k : Int) (t : Bool) (d : Int) : K8 :=
  if k = 0 then (t, d, l.2.2) else if k = 1 then (l.1, l.2.1, t, d, l.2.2.2.2) else if k = 2 then (l.1, l.2.1, l.2.2.1, l.2.2.2.1, t, d, l.2.2.2.2.2.2) else if k = 3 then (l.1, l.2.1, l.2.2.1, l.2.2.2.1, l.2.2.2.2.1, l.2.2.2.2.2.1, t, d) else l

/-- The first one that is not taken (4: there is none). -/
def fst4 (l : K8) : Int := if l.1 = false then 0 else if l.2.2.1 = false then 1 else if l.2.2.2.2.1 = false then 2 else if l.2.2.2.2.2.2.1 = false then 3 else 4

/-- What New answers. -/
def nwL (l : K8) : K8 := if fst4 l = 4 then no8 else put l (fst4 l) true 0
def nwN (l : K8) : Int := if fst4 l = 4 then 0 else fst4 l
def nwE (l : K8) : Int := if fst4 l = 4 then 4 else 0

/-- What Free answers. -/
def frL (l : K8) (k : Int) : K8 := if k = 0 ∨ tk l k = false then no8 else put l k false 0
def frE (l : K8) (k : Int) : Int := if k = 0 ∨ tk l k = false then 3 else 0

/-- What Set answers. -/
def stL (l : K8) (k d : Int) : K8 := if tk l k = false ∨ d < 0 ∨ 3 < d then no8 else put l k true d
def stE (l : K8) (k d : Int) : Int := if tk l k = false then 3 else if d < 0 ∨ 3 < d then 2 else 0

theorem put_0 (l : K8) (t : Bool) (d : Int) : put l 0 t d = (t, d, l.2.2) := by simp [put]
theorem put_1 (l : K8) (t : Bool) (d : Int) : put l 1 t d = (l.1, l.2.1, t, d, l.2.2.2.2) := by simp [put]
theorem put_2 (l : K8) (t : Bool) (d : Int) : put l 2 t d = (l.1, l.2.1, l.2.2.1, l.2.2.2.1, t, d, l.2.2.2.2.2.2) := by simp [put]
theorem put_3 (l : K8) (t : Bool) (d : Int) : put l 3 t d = (l.1, l.2.1, l.2.2.1, l.2.2.2.1, l.2.2.2.2.1, l.2.2.2.2.2.1, t, d) := by simp [put]

theorem tk_key {l : K8} {k : Int} (h : tk l k = true) : k = 0 ∨ k = 1 ∨ k = 2 ∨ k = 3 := by
  unfold tk at h
  split at h
  · omega
  split at h
  · omega
  split at h
  · omega
  split at h
  · omega
  · cases h

theorem tk_out {l : K8} {k : Int} (h : k < 0 ∨ 3 < k) : tk l k = false := by
  unfold tk
  rw [if_neg (by omega), if_neg (by omega), if_neg (by omega), if_neg (by omega)]

theorem stE_zero {l : K8} {k d : Int} : stE l k d = 0 ↔ tk l k = true ∧ ¬(d < 0 ∨ 3 < d) := by
  unfold stE
  cases tk l k
  · simp
  · by_cases h : d < 0 ∨ 3 < d <;> simp [h]

theorem stL_ok {l : K8} {k d : Int} (h : stE l k d = 0) : stL l k d = put l k true d := by
  obtain ⟨h1, h2⟩ := stE_zero.1 h
  unfold stL
  rw [if_neg (by simp [h1]; omega)]

theorem stL_no {l : K8} {k d : Int} (h : stE l k d ≠ 0) : stL l k d = no8 := by
  unfold stL
  rw [if_pos]
  by_cases h1 : tk l k = true
  · exact Or.inr (Decidable.byContradiction fun h2 => h (stE_zero.2 ⟨h1, h2⟩))
  · exact Or.inl (by simpa using h1)

theorem tk_put {l : K8} {k j : Int} {d : Int} (h : tk l k = true) : tk (put l k true d) j = tk l j := by
  obtain ⟨t0, d0, t1, d1, t2, d2, t3, d3⟩ := l
  rcases tk_key h with rfl | rfl | rfl | rfl <;> (simp [tk] at h; subst h; simp [tk, put])

theorem dy_put {l : K8} {k : Int} {t : Bool} {d : Int} (h : tk l k = true) : dy (put l k t d) k = d := by
  rcases tk_key h with rfl | rfl | rfl | rfl <;> simp [dy, put]

theorem put_other {l : K8} {a b : Int} {s t : Bool} {c d : Int} (ha : tk l a = true) (hb : tk l b = true) (h : a ≠ b) : put (put l a s c) b t d = put (put l b t d) a s c := by
  rcases tk_key ha with rfl | rfl | rfl | rfl <;> rcases tk_key hb with rfl | rfl | rfl | rfl <;> simp [put] at h ⊢

/-- Keys do not know of each other. -/
theorem keys_apart {l : K8} {a b x y : Int} (h1 : stE l a x = 0) (h2 : stE (stL l a x) b y = 0) :
    stE l b y = 0 ∧ stE (stL l b y) a x = 0 ∧ tk l b = true ∧ dy (stL (stL l a x) b y) b = y ∧ (a ≠ b → stL (stL l a x) b y = stL (stL l b y) a x) := by
  obtain ⟨ha, hx⟩ := stE_zero.1 h1
  obtain ⟨hb', hy⟩ := stE_zero.1 h2
  have hb'' := hb'
  rw [stL_ok h1, tk_put ha] at hb'
  have h3 : stE l b y = 0 := stE_zero.2 ⟨hb', hy⟩
  have h4 : stE (stL l b y) a x = 0 := stE_zero.2 ⟨by rw [stL_ok h3, tk_put hb']; exact ha, hx⟩
  refine ⟨h3, h4, hb', ?_, fun hne => ?_⟩
  · rw [stL_ok h2]
    exact dy_put hb''
  · rw [stL_ok h2, stL_ok h1, stL_ok h4, stL_ok h3]
    exact put_other ha hb' hne

theorem fst4_cases (l : K8) : (fst4 l = 4 ∧ l.1 = true ∧ l.2.2.1 = true ∧ l.2.2.2.2.1 = true ∧ l.2.2.2.2.2.2.1 = true) ∨ ((fst4 l = 0 ∨ fst4 l = 1 ∨ fst4 l = 2 ∨ fst4 l = 3) ∧ tk l (fst4 l) = false) := by
  obtain ⟨t0, d0, t1, d1, t2, d2, t3, d3⟩ := l
  cases t0 <;> cases t1 <;> cases t2 <;> cases t3 <;> simp [fst4, tk]

end Go.Proofs.Ytggecjfmgppciaf

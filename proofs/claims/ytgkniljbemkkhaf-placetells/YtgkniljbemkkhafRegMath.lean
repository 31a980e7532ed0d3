/- Regions as lists of spans with what their pages are like: right lists are told by their pages; parts, joins, counts; no program is named. -/
namespace Go.Proofs.Ytgkniljbemkkhaf
set_option linter.unusedSimpArgs false
set_option linter.unusedVariables false

/-- Rights, Key, Tagged, Sealed. -/
abbrev A4 := Int × Int × Bool × Bool
/-- From, To, and what they are like. -/
abbrev R6 := Int × Int × A4

/-- Whether p is one of pages f to t - 1. -/
def iv (f t p : Int) : Bool := decide (f ≤ p) && decide (p < t)
theorem iv_iff {f t p : Int} : iv f t p = true ↔ f ≤ p ∧ p < t := by simp [iv]

def isSp (f t : Int) : Bool := decide (0 ≤ f) && decide (f < t) && decide (t ≤ 64)
theorem isSp_iff {f t : Int} : isSp f t = true ↔ 0 ≤ f ∧ f < t ∧ t ≤ 64 := by simp [isSp, and_assoc]

/-- Whether y, which follows x, should be one with it. -/
def jo (x y : R6) : Bool := decide (x.2.1 = y.1) && decide (x.2.2 = y.2.2)
theorem jo_iff {x y : R6} : jo x y = true ↔ x.2.1 = y.1 ∧ x.2.2 = y.2.2 := by simp [jo]

def zR : R6 := (0, 0, 0, 0, false, false)
def zA : A4 := (0, 0, false, false)

/-- Whether the one at place i may stand there. -/
def okAt (l : List R6) (i : Nat) : Bool :=
  isSp (l.getD i zR).1 (l.getD i zR).2.1 && (decide (i = 0) || !(decide ((l.getD i zR).1 < (l.getD (i - 1) zR).2.1) || jo (l.getD (i - 1) zR) (l.getD i zR)))

def rightR (l : List R6) : Bool := (List.range l.length).all (okAt l)
theorem rightR_iff {l : List R6} : rightR l = true ↔ ∀ i, i < l.length → okAt l i = true := by simp [rightR]

/-- What the page is like by the first that has it. -/
def atR : List R6 → Int → Option A4
  | [], _ => none
  | x :: r, p => if iv x.1 x.2.1 p then some x.2.2 else atR r p

/-- Right from page lo on, where a span that ends at lo is like la. -/
def Good : Int → Option A4 → List R6 → Prop
  | _, _, [] => True
  | lo, la, x :: r => lo ≤ x.1 ∧ x.1 < x.2.1 ∧ x.2.1 ≤ 64 ∧ (x.1 = lo → la ≠ some x.2.2) ∧ Good x.2.1 (some x.2.2) r

/-- Spans that rise, from lo to hi. -/
def Asc : Int → Int → List R6 → Prop
  | lo, hi, [] => lo ≤ hi
  | lo, hi, x :: r => lo ≤ x.1 ∧ x.1 < x.2.1 ∧ Asc x.2.1 hi r

theorem Asc.le : ∀ {l lo hi}, Asc lo hi l → lo ≤ hi
  | [], _, _, h => h
  | x :: r, lo, hi, h => by have := Asc.le h.2.2; have := h.1; have := h.2.1; omega

theorem Asc.lower : ∀ {l lo lo' hi}, Asc lo hi l → lo' ≤ lo → Asc lo' hi l
  | [], _, _, _, h, h2 => Int.le_trans h2 h
  | x :: r, _, _, _, h, h2 => ⟨Int.le_trans h2 h.1, h.2⟩

theorem Asc.append : ∀ {l m lo mid hi}, Asc lo mid l → Asc mid hi m → Asc lo hi (l ++ m)
  | [], _, _, _, _, h, h2 => h2.lower h
  | x :: r, _, _, _, _, h, h2 => ⟨h.1, h.2.1, h.2.2.append h2⟩

theorem Good.asc : ∀ {l lo la}, Good lo la l → lo ≤ 64 → Asc lo 64 l
  | [], _, _, _, h => h
  | x :: r, _, _, h, _ => ⟨h.1, h.2.1, h.2.2.2.2.asc h.2.2.1⟩

theorem asc_len : ∀ {l lo hi}, Asc lo hi l → (l.length : Int) ≤ hi - lo
  | [], lo, hi, h => by have : lo ≤ hi := h; simp; omega
  | x :: r, lo, hi, h => by
    have h1 := h.1
    have h2 := h.2.1
    have := asc_len h.2.2
    rw [List.length_cons]
    omega

theorem good_len {l : List R6} (h : Good 0 none l) : l.length ≤ 64 := by
  have := asc_len (h.asc (by decide))
  omega

theorem at_lo : ∀ {l lo hi p}, Asc lo hi l → p < lo → atR l p = none
  | [], _, _, _, _, _ => rfl
  | x :: r, lo, hi, p, h, hp => by
    have h1 := h.1
    have h2 := h.2.1
    rw [atR, if_neg (by rw [iv_iff]; omega), at_lo h.2.2 (by omega)]

theorem at_hi : ∀ {l lo hi p}, Asc lo hi l → hi ≤ p → atR l p = none
  | [], _, _, _, _, _ => rfl
  | x :: r, lo, hi, p, h, hp => by
    have h1 := h.1
    have h2 := h.2.2.le
    rw [atR, if_neg (by rw [iv_iff]; omega), at_hi h.2.2 hp]

theorem at_end : ∀ {l lo a}, Good lo (some a) l → atR l lo ≠ some a
  | [], _, _, _, h => by simp [atR] at h
  | x :: r, lo, a, h, he => by
    have h1 := h.1
    have h2 := h.2.1
    rw [atR] at he
    by_cases hx : iv x.1 x.2.1 lo = true
    · rw [if_pos hx] at he
      rw [iv_iff] at hx
      exact h.2.2.2.1 (by omega) he.symm
    · rw [if_neg hx, at_lo (h.2.2.2.2.asc h.2.2.1) (by omega)] at he
      cases he

/-- Pages tell a right list. -/
theorem good_unique : ∀ {l m lo la}, Good lo la l → Good lo la m → (∀ p, lo ≤ p → atR l p = atR m p) → l = m
  | [], [], _, _, _, _, _ => rfl
  | [], y :: s, lo, la, _, hm, h => by
    have := h y.1 hm.1
    rw [atR, atR, if_pos (iv_iff.2 ⟨Int.le_refl _, hm.2.1⟩)] at this
    cases this
  | x :: r, [], lo, la, hl, _, h => by
    have := h x.1 hl.1
    rw [atR, atR, if_pos (iv_iff.2 ⟨Int.le_refl _, hl.2.1⟩)] at this
    cases this
  | (f, t, a) :: r, (f', t', a') :: s, lo, la, hl, hm, h => by
    obtain ⟨l1, l2, l3, l4, l5⟩ := hl
    obtain ⟨m1, m2, m3, m4, m5⟩ := hm
    simp only at l1 l2 l3 l4 l5 m1 m2 m3 m4 m5
    have hA := l5.asc l3
    have hB := m5.asc m3
    have hf : f = f' := by
      rcases Int.lt_trichotomy f f' with h1 | h1 | h1
      · have := h f l1
        rw [atR, atR, if_pos (iv_iff.2 ⟨Int.le_refl _, l2⟩), if_neg (by rw [iv_iff]; simp only; omega), at_lo hB (by omega)] at this
        cases this
      · exact h1
      · have := h f' m1
        rw [atR, atR, if_neg (by rw [iv_iff]; simp only; omega), if_pos (iv_iff.2 ⟨Int.le_refl _, m2⟩), at_lo hA (by omega)] at this
        cases this
    subst hf
    have ha : a = a' := by
      have := h f l1
      rw [atR, atR, if_pos (iv_iff.2 ⟨Int.le_refl _, l2⟩), if_pos (iv_iff.2 ⟨Int.le_refl _, m2⟩)] at this
      exact Option.some.inj this
    subst ha
    have ht : t = t' := by
      rcases Int.lt_trichotomy t t' with h1 | h1 | h1
      · have := h t (by omega)
        rw [atR, atR, if_neg (by rw [iv_iff]; simp only; omega), if_pos (iv_iff.2 ⟨by simp only; omega, h1⟩)] at this
        exact absurd this (at_end l5)
      · exact h1
      · have := h t' (by omega)
        rw [atR, atR, if_pos (iv_iff.2 ⟨by simp only; omega, h1⟩), if_neg (by rw [iv_iff]; simp only; omega)] at this
        exact absurd this.symm (at_end m5)
    subst ht
    rw [good_unique l5 m5 (fun p hp => by
      have := h p (by omega)
      rw [atR, atR, if_neg (by rw [iv_iff]; simp only; omega), if_neg (by rw [iv_iff]; simp only; omega)] at this
      exact this)]

/-- Right from place k of l on. -/
theorem good_drop (l : List R6) (h : ∀ i, i < l.length → okAt l i = true) : ∀ (j k : Nat), k + j = l.length → ∀ lo la, (k = 0 → lo = 0 ∧ la = none) → (0 < k → lo = (l.getD (k - 1) zR).2.1 ∧ la = some (l.getD (k - 1) zR).2.2) → Good lo la (l.drop k)
  | 0, k, hk, lo, la, _, _ => by rw [List.drop_of_length_le (by omega)]; trivial
  | j + 1, k, hk, lo, la, h0, h1 => by
    have hlt : k < l.length := by omega
    rw [List.drop_eq_getElem_cons hlt]
    have hok := h k hlt
    have hg : l.getD k zR = l[k] := by rw [List.getD_eq_getElem?_getD, List.getElem?_eq_getElem hlt]; rfl
    unfold okAt at hok
    rw [hg, Bool.and_eq_true, isSp_iff] at hok
    obtain ⟨⟨a1, a2, a3⟩, a4⟩ := hok
    have ih := good_drop l h j (k + 1) (by omega) l[k].2.1 (some l[k].2.2) (fun h => by omega) (fun _ => by rw [show k + 1 - 1 = k from rfl, hg]; exact ⟨rfl, rfl⟩)
    by_cases hz : k = 0
    · obtain ⟨rfl, rfl⟩ := h0 hz
      exact ⟨a1, a2, a3, (fun _ h => by cases h), ih⟩
    · obtain ⟨rfl, rfl⟩ := h1 (by omega)
      simp only [decide_eq_false hz, Bool.false_or, Bool.not_eq_true', Bool.or_eq_false_iff, decide_eq_false_iff_not] at a4
      refine ⟨by omega, a2, a3, fun he h => ?_, ih⟩
      have := a4.2
      rw [Bool.eq_false_iff] at this
      exact this (jo_iff.2 ⟨he.symm, Option.some.inj h⟩)

theorem good_of_right {l : List R6} (h : rightR l = true) : Good 0 none l := by
  have := good_drop l (rightR_iff.1 h) l.length 0 (by omega) 0 none (fun _ => ⟨rfl, rfl⟩) (fun h => by omega)
  rwa [List.drop_zero] at this

theorem okAt_succ (x : R6) (r : List R6) (i : Nat) : okAt (x :: r) (i + 1) = (isSp (r.getD i zR).1 (r.getD i zR).2.1 && !(decide ((r.getD i zR).1 < ((x :: r).getD i zR).2.1) || jo ((x :: r).getD i zR) (r.getD i zR))) := by
  unfold okAt
  rw [show i + 1 - 1 = i from rfl, List.getD_cons_succ, decide_eq_false (by omega), Bool.false_or]

theorem right_of_good' : ∀ {l lo la}, Good lo la l → 0 ≤ lo → ∀ i, i < l.length → okAt l i = true
  | [], _, _, _, _, i, hi => by simp at hi
  | x :: r, lo, la, h, h0, i, hi => by
    obtain ⟨h1, h2, h3, h4, h5⟩ := h
    have hx : isSp x.1 x.2.1 = true := isSp_iff.2 ⟨by omega, h2, h3⟩
    cases i with
    | zero => simp [okAt, hx]
    | succ i =>
      have ih := right_of_good' h5 (by omega) i (by simpa using hi)
      rw [okAt_succ]
      cases i with
      | zero =>
        cases r with
        | nil => simp at hi
        | cons y s =>
          obtain ⟨g1, g2, g3, g4, g5⟩ := h5
          simp only [List.getD_cons_zero]
          rw [isSp_iff.2 ⟨by omega, g2, g3⟩, Bool.true_and, Bool.not_eq_true', Bool.or_eq_false_iff, decide_eq_false_iff_not, Bool.eq_false_iff]
          refine ⟨by omega, fun hj => ?_⟩
          rw [jo_iff] at hj
          exact g4 hj.1.symm (by rw [hj.2])
      | succ i =>
        rw [List.getD_cons_succ]
        cases r with
        | nil => simp at hi
        | cons y s =>
          rw [okAt_succ] at ih
          rw [List.getD_cons_succ]
          exact ih

theorem right_of_good {l : List R6} (h : Good 0 none l) : rightR l = true := rightR_iff.2 (right_of_good' h (Int.le_refl _))
theorem right_iff_good {l : List R6} : rightR l = true ↔ Good 0 none l := ⟨good_of_right, right_of_good⟩

/-- What of x is in pages f to t - 1. -/
def clipR (x : R6) (f t : Int) : R6 := (max x.1 f, min x.2.1 t, x.2.2)
def clipB (x : R6) (f t : Int) : Bool := decide (max x.1 f < min x.2.1 t)

def partL (l : List R6) (f t : Int) : List R6 := (l.map (fun x => clipR x f t)).filter (fun y => decide (y.1 < y.2.1))

theorem partL_nil (f t : Int) : partL [] f t = [] := rfl
theorem partL_cons (x : R6) (r : List R6) (f t : Int) : partL (x :: r) f t = if clipB x f t then clipR x f t :: partL r f t else partL r f t := by
  simp only [partL, List.map_cons, List.filter_cons]
  rfl

theorem partL_len (l : List R6) (f t : Int) : (partL l f t).length ≤ l.length := by
  unfold partL
  exact Nat.le_trans (List.length_filter_le _ _) (by simp)

theorem clip_iv (x : R6) (f t p : Int) : iv (clipR x f t).1 (clipR x f t).2.1 p = (iv x.1 x.2.1 p && iv f t p) := by
  rw [Bool.eq_iff_iff, Bool.and_eq_true, iv_iff, iv_iff, iv_iff]
  simp only [clipR]
  omega

theorem at_part (f t p : Int) : ∀ l, atR (partL l f t) p = if iv f t p then atR l p else none
  | [] => by simp [partL, atR]
  | x :: r => by
    have ih := at_part f t p r
    rw [partL_cons]
    by_cases hc : clipB x f t = true
    · rw [if_pos hc, atR, clip_iv, ih, atR]
      by_cases h1 : iv x.1 x.2.1 p = true <;> by_cases h2 : iv f t p = true <;> simp [h1, h2, clipR]
    · rw [if_neg hc, ih, atR]
      by_cases h1 : iv x.1 x.2.1 p = true <;> by_cases h2 : iv f t p = true <;> simp [h1, h2]
      exfalso
      apply hc
      rw [iv_iff] at h1 h2
      simp only [clipB, decide_eq_true_eq]
      omega

theorem asc_part {f t : Int} (hft : f ≤ t) : ∀ {l lo hi}, Asc lo hi l → Asc f t (partL l f t) ∧ (lo ≤ t → Asc (max lo f) t (partL l f t))
  | [], lo, hi, h => ⟨hft, fun h => by show max lo f ≤ t; omega⟩
  | x :: r, lo, hi, h => by
    obtain ⟨h1, h2, h3⟩ := h
    obtain ⟨i1, i2⟩ := asc_part (f := f) (t := t) hft h3
    rw [partL_cons]
    by_cases hc : clipB x f t = true
    · have hc' := hc
      simp only [clipB, decide_eq_true_eq] at hc'
      rw [if_pos hc]
      have hr : Asc (min x.2.1 t) t (partL r f t) := by
        by_cases h4 : x.2.1 ≤ t
        · have := i2 h4
          exact this.lower (by omega)
        · have : partL r f t = [] := by
            have hh : ∀ {l : List R6} {lo hi : Int}, Asc lo hi l → t ≤ lo → partL l f t = [] := by
              intro l
              induction l with
              | nil => intros; rfl
              | cons y s ih =>
                intro lo hi hy hlo
                obtain ⟨y1, y2, y3⟩ := hy
                rw [partL_cons, if_neg (by simp only [clipB, decide_eq_true_eq]; omega)]
                exact ih y3 (by omega)
            exact hh h3 (by omega)
          rw [this]
          show _ ≤ _
          omega
      refine ⟨⟨?_, hc', hr⟩, fun _ => ⟨?_, hc', hr⟩⟩ <;> (simp only [clipR]; omega)
    · rw [if_neg hc]
      refine ⟨i1, fun hlo => ?_⟩
      simp only [clipB, decide_eq_true_eq] at hc
      by_cases h4 : x.2.1 ≤ t
      · exact (i2 h4).lower (by omega)
      · have : partL r f t = [] := by
          have hh : ∀ {l : List R6} {lo hi : Int}, Asc lo hi l → t ≤ lo → partL l f t = [] := by
            intro l
            induction l with
            | nil => intros; rfl
            | cons y s ih =>
              intro lo hi hy hlo
              obtain ⟨y1, y2, y3⟩ := hy
              rw [partL_cons, if_neg (by simp only [clipB, decide_eq_true_eq]; omega)]
              exact ih y3 (by omega)
          exact hh h3 (by omega)
        rw [this]
        show _ ≤ _
        omega

theorem at_append (p : Int) (m : List R6) : ∀ l, atR (l ++ m) p = (atR l p).or (atR m p)
  | [] => by simp [atR]
  | x :: r => by
    rw [List.cons_append, atR, atR, at_append p m r]
    by_cases h : iv x.1 x.2.1 p = true <;> simp [h]

/-- y with what follows: those that touch and are alike are one. -/
def jn2 (y : R6) : List R6 → List R6
  | [] => [y]
  | x :: r => if jo y x then jn2 (y.1, x.2.1, y.2.2) r else y :: jn2 x r

def joinL : List R6 → List R6
  | [] => []
  | x :: r => jn2 x r

/-- One more behind those that are joined. -/
def jn (acc : List R6) (x : R6) : List R6 :=
  if acc.length ≠ 0 ∧ jo (acc.getD (acc.length - 1) zR) x = true then acc.take (acc.length - 1) ++ [((acc.getD (acc.length - 1) zR).1, x.2.1, (acc.getD (acc.length - 1) zR).2.2)] else acc ++ [x]

theorem jn2_ne (y : R6) : ∀ r, jn2 y r ≠ []
  | [] => by simp [jn2]
  | x :: r => by
    rw [jn2]
    split
    · exact jn2_ne _ r
    · simp

theorem jn_cons (y x : R6) (acc : List R6) (h : acc ≠ []) : jn (y :: acc) x = y :: jn acc x := by
  cases acc with
  | nil => exact absurd rfl h
  | cons z s =>
    simp only [jn, List.length_cons, show s.length + 1 + 1 - 1 = s.length + 1 from rfl, show s.length + 1 - 1 = s.length from rfl, List.getD_cons_succ, List.take_succ_cons]
    by_cases hc : jo ((z :: s).getD s.length zR) x = true
    · rw [if_pos ⟨by omega, hc⟩, if_pos ⟨by omega, hc⟩]; rfl
    · rw [if_neg (fun h => hc h.2), if_neg (fun h => hc h.2)]; rfl

theorem jn2_snoc (x : R6) : ∀ (r : List R6) (y : R6), jn2 y (r ++ [x]) = jn (jn2 y r) x
  | [], y => by
    simp only [List.nil_append, jn2, jn, List.length_singleton, show 1 - 1 = 0 from rfl, List.getD_cons_zero, List.take_zero]
    by_cases h : jo y x = true
    · rw [if_pos h, if_pos ⟨by decide, h⟩]
    · rw [if_neg h, if_neg (fun hh => h hh.2)]; rfl
  | z :: r, y => by
    rw [List.cons_append, jn2, jn2]
    by_cases h : jo y z = true
    · rw [if_pos h, if_pos h, jn2_snoc x r]
    · rw [if_neg h, if_neg h, jn2_snoc x r, jn_cons _ _ _ (jn2_ne z r)]

theorem joinL_snoc (l : List R6) (x : R6) : joinL (l ++ [x]) = jn (joinL l) x := by
  cases l with
  | nil => simp [joinL, jn2, jn]
  | cons y r => exact jn2_snoc x r y

theorem jn_len (acc : List R6) (x : R6) : (jn acc x).length ≤ acc.length + 1 := by
  unfold jn
  split
  · rw [List.length_append, List.length_take, List.length_singleton]
    omega
  · simp

theorem joinL_len : ∀ (k : Nat) (l : List R6), (joinL (l.take k)).length ≤ k
  | 0, l => by simp [joinL]
  | k + 1, l => by
    have ih := joinL_len k l
    rw [List.take_add_one]
    cases h : l[k]? with
    | none => simp; omega
    | some x =>
      rw [Option.toList_some, joinL_snoc]
      have := jn_len (joinL (l.take k)) x
      omega

theorem jn2_good : ∀ (r : List R6) (y : R6) (lo hi : Int) (la : Option A4), lo ≤ y.1 → y.1 < y.2.1 → Asc y.2.1 hi r → hi ≤ 64 → (y.1 = lo → la ≠ some y.2.2) → Good lo la (jn2 y r)
  | [], y, lo, hi, la, h1, h2, h3, h4, h5 => ⟨h1, h2, by have := h3.le; omega, h5, trivial⟩
  | x :: r, y, lo, hi, la, h1, h2, h3, h4, h5 => by
    obtain ⟨g1, g2, g3⟩ := h3
    rw [jn2]
    by_cases hj : jo y x = true
    · rw [if_pos hj]
      exact jn2_good r (y.1, x.2.1, y.2.2) lo hi la h1 (by simp only; omega) g3 h4 h5
    · rw [if_neg hj]
      refine ⟨h1, h2, by have := g3.le; omega, h5, jn2_good r x y.2.1 hi (some y.2.2) g1 g2 g3 h4 (fun he ha => hj (jo_iff.2 ⟨he.symm, Option.some.inj ha⟩))⟩

theorem jn2_at (p : Int) : ∀ (r : List R6) (y : R6) (hi : Int), y.1 < y.2.1 → Asc y.2.1 hi r → atR (jn2 y r) p = atR (y :: r) p
  | [], y, hi, _, _ => rfl
  | x :: r, y, hi, h2, h3 => by
    obtain ⟨g1, g2, g3⟩ := h3
    rw [jn2]
    by_cases hj : jo y x = true
    · rw [if_pos hj, jn2_at p r (y.1, x.2.1, y.2.2) hi (by simp only; omega) g3]
      rw [jo_iff] at hj
      rw [atR, atR, atR]
      simp only
      by_cases ha : iv y.1 y.2.1 p = true <;> by_cases hb : iv x.1 x.2.1 p = true <;> by_cases hc : iv y.1 x.2.1 p = true <;> simp only [ha, hb, hc, if_true, if_false, Bool.false_eq_true] <;> rw [iv_iff] at ha hb hc <;> first | rfl | (exfalso; omega) | (rw [hj.2])
    · rw [if_neg hj, atR, atR, jn2_at p r x hi g2 g3]

theorem joinL_good {l : List R6} (h : Asc 0 64 l) : Good 0 none (joinL l) := by
  cases l with
  | nil => trivial
  | cons x r => exact jn2_good r x 0 64 none h.1 h.2.1 h.2.2 (Int.le_refl _) (fun _ h => by cases h)

theorem joinL_at {l : List R6} (h : Asc 0 64 l) (p : Int) : atR (joinL l) p = atR l p := by
  cases l with
  | nil => rfl
  | cons x r => exact jn2_at p r x 64 h.2.1 h.2.2

/-- l with inner in the place of pages f to t - 1. -/
def replL (l : List R6) (f t : Int) (inner : List R6) : List R6 := joinL (partL l 0 f ++ inner ++ partL l t 64)

theorem repl_asc {l : List R6} {f t : Int} {inner : List R6} (hl : Asc 0 64 l) (hf : 0 ≤ f) (ht : t ≤ 64) (hi : Asc f t inner) : Asc 0 64 (partL l 0 f ++ inner ++ partL l t 64) :=
  (((asc_part hf hl).1).append hi).append (asc_part ht hl).1

theorem repl_good {l : List R6} {f t : Int} {inner : List R6} (hl : Good 0 none l) (hs : isSp f t = true) (hi : Asc f t inner) :
    Good 0 none (replL l f t inner) ∧ ∀ p, atR (replL l f t inner) p = if iv f t p then atR inner p else atR l p := by
  rw [isSp_iff] at hs
  have hA := hl.asc (by decide)
  have h := repl_asc hA hs.1 hs.2.2 hi
  refine ⟨joinL_good h, fun p => ?_⟩
  unfold replL
  rw [joinL_at h, at_append, at_append, at_part, at_part]
  by_cases h1 : iv f t p = true
  · rw [iv_iff] at h1
    have a : iv 0 f p = false := by rw [Bool.eq_false_iff, ne_eq, iv_iff]; omega
    have b : iv t 64 p = false := by rw [Bool.eq_false_iff, ne_eq, iv_iff]; omega
    rw [a, b, iv_iff.2 h1]
    simp
  · rw [if_neg h1]
    rw [iv_iff] at h1
    have hn : atR inner p = none := by
      by_cases h2 : p < f
      · exact at_lo hi h2
      · exact at_hi hi (by omega)
    rw [hn]
    by_cases h2 : p < f
    · have b : iv t 64 p = false := by rw [Bool.eq_false_iff, ne_eq, iv_iff]; omega
      rw [b]
      by_cases h3 : 0 ≤ p
      · rw [iv_iff.2 ⟨h3, h2⟩]; simp
      · rw [at_lo hA (by omega)]; simp
    · have a : iv 0 f p = false := by rw [Bool.eq_false_iff, ne_eq, iv_iff]; omega
      rw [a]
      by_cases h3 : p < 64
      · rw [iv_iff.2 ⟨by omega, h3⟩]; simp
      · rw [at_hi hA (by omega)]; simp

/-- How many of pages 0 to n - 1 are g. -/
def pn (g : Int → Bool) : Nat → Int
  | 0 => 0
  | n + 1 => pn g n + if g n then 1 else 0

theorem pn_congr {g h : Int → Bool} : ∀ n, (∀ p : Nat, p < n → g p = h p) → pn g n = pn h n
  | 0, _ => rfl
  | n + 1, hh => by rw [pn, pn, pn_congr n (fun p hp => hh p (by omega)), hh n (by omega)]

theorem pn_or {g h : Int → Bool} : ∀ n, (∀ p : Nat, p < n → g p = true → h p = true → False) → pn (fun p => g p || h p) n = pn g n + pn h n
  | 0, _ => rfl
  | n + 1, hh => by
    rw [pn, pn, pn, pn_or n (fun p hp => hh p (by omega))]
    have := hh n (by omega)
    cases hg : g n <;> cases hk : h n <;> simp [hg, hk] at this ⊢ <;> omega

theorem pn_nonneg (g : Int → Bool) : ∀ n, 0 ≤ pn g n
  | 0 => Int.le_refl _
  | n + 1 => by
    have := pn_nonneg g n
    rw [pn]
    split <;> omega

theorem pn_zero {g : Int → Bool} : ∀ {n}, pn g n = 0 ↔ ∀ p : Nat, p < n → g p = false
  | 0 => ⟨fun _ p hp => by omega, fun _ => rfl⟩
  | n + 1 => by
    have h0 := pn_nonneg g n
    rw [pn]
    constructor
    · intro h p hp
      cases hg : g n with
      | true => rw [hg] at h; simp at h; omega
      | false =>
        rw [hg] at h
        simp at h
        by_cases he : p = n
        · rw [he, hg]
        · exact pn_zero.1 h p (by omega)
    · intro h
      rw [pn_zero.2 (fun p hp => h p (by omega)), h n (by omega)]
      rfl

theorem pn_iv (a b : Int) (ha : 0 ≤ a) : ∀ n : Nat, pn (iv a b) n = if a < min b n then min b n - a else 0
  | 0 => by rw [pn, if_neg (by omega)]
  | n + 1 => by
    rw [pn, pn_iv a b ha n]
    by_cases h : iv a b n = true
    · rw [if_pos h]
      rw [iv_iff] at h
      split <;> split <;> omega
    · rw [if_neg h]
      rw [iv_iff] at h
      split <;> split <;> omega

/-- How many of pages f to t - 1 those of l have, each for itself. -/
def cnt : List R6 → Int → Int → Int
  | [], _, _ => 0
  | x :: r, f, t => (if clipB x f t then (clipR x f t).2.1 - (clipR x f t).1 else 0) + cnt r f t

theorem cnt_snoc (x : R6) (f t : Int) : ∀ l, cnt (l ++ [x]) f t = cnt l f t + (if clipB x f t then (clipR x f t).2.1 - (clipR x f t).1 else 0)
  | [] => by simp [cnt]
  | y :: r => by rw [List.cons_append, cnt, cnt, cnt_snoc x f t r]; omega

theorem cnt_part_nil (f t : Int) : ∀ l, partL l f t = [] → cnt l f t = 0
  | [], _ => rfl
  | x :: r, h => by
    rw [partL_cons] at h
    cases hc : clipB x f t with
    | true => rw [hc] at h; simp at h
    | false =>
      rw [hc] at h
      rw [cnt, hc, cnt_part_nil f t r (by simpa using h)]
      rfl

theorem clip_pn (x : R6) {f t : Int} (hf : 0 ≤ f) (ht : t ≤ 64) : (if clipB x f t then (clipR x f t).2.1 - (clipR x f t).1 else 0) = pn (fun p => iv x.1 x.2.1 p && iv f t p) 64 := by
  have h := pn_iv (max x.1 f) (min x.2.1 t) (by omega) 64
  have e : pn (iv (max x.1 f) (min x.2.1 t)) 64 = pn (fun p => iv x.1 x.2.1 p && iv f t p) 64 := pn_congr 64 (fun p _ => clip_iv x f t p)
  rw [← e, h]
  simp only [clipB, clipR, decide_eq_true_eq]
  split <;> split <;> omega

theorem clip_bd (x : R6) {f t : Int} (hft : f ≤ t) : 0 ≤ (if clipB x f t then (clipR x f t).2.1 - (clipR x f t).1 else 0) ∧ (if clipB x f t then (clipR x f t).2.1 - (clipR x f t).1 else 0) ≤ t - f := by
  by_cases h : clipB x f t = true
  · rw [if_pos h]
    simp only [clipB, decide_eq_true_eq] at h
    simp only [clipR]
    omega
  · rw [if_neg h]
    omega

theorem cnt_bd {f t : Int} (hft : f ≤ t) : ∀ l, 0 ≤ cnt l f t ∧ cnt l f t ≤ l.length * (t - f)
  | [] => by simp [cnt]
  | x :: r => by
    have h1 := cnt_bd hft r
    have h2 := clip_bd x hft
    rw [cnt, List.length_cons, Int.natCast_add, Int.add_mul]
    omega

theorem cnt_pages {f t : Int} (hf : 0 ≤ f) (ht : t ≤ 64) : ∀ {l lo hi}, Asc lo hi l → cnt l f t = pn (fun p => (atR l p).isSome && iv f t p) 64
  | [], _, _, _ => by
    rw [cnt]
    exact (pn_zero.2 (fun p _ => by simp [atR])).symm
  | x :: r, lo, hi, h => by
    rw [cnt, clip_pn x hf ht, cnt_pages hf ht h.2.2, ← pn_or 64]
    · refine pn_congr 64 (fun p _ => ?_)
      simp only [atR]
      cases h1 : iv x.1 x.2.1 p <;> cases h2 : iv f t p <;> simp
    · intro p _ h1 h2
      simp only [Bool.and_eq_true, iv_iff] at h1 h2
      rw [at_lo h.2.2 h1.1.2] at h2
      simp at h2

theorem cnt_zero {l : List R6} {f t : Int} (hl : Good 0 none l) (hs : isSp f t = true) : cnt l f t = 0 ↔ ∀ p, iv f t p = true → atR l p = none := by
  rw [isSp_iff] at hs
  rw [cnt_pages hs.1 hs.2.2 (hl.asc (by decide)), pn_zero]
  constructor
  · intro h p hp
    have hp' := iv_iff.1 hp
    have := h p.toNat (by omega)
    rw [Int.toNat_of_nonneg (by omega), hp, Bool.and_true, Option.isSome_eq_false_iff, Option.isNone_iff_eq_none] at this
    exact this
  · intro h p _
    cases hp : iv f t p with
    | false => simp
    | true => rw [h p hp]; rfl

theorem cnt_full {l : List R6} {f t : Int} (hl : Good 0 none l) (hs : isSp f t = true) : ¬ cnt l f t < t - f ↔ ∀ p, iv f t p = true → (atR l p).isSome = true := by
  have hs' := isSp_iff.1 hs
  have h1 : pn (iv f t) 64 = t - f := by rw [pn_iv f t hs'.1 64, if_pos (by omega)]; omega
  have h2 : pn (iv f t) 64 = pn (fun p => (atR l p).isSome && iv f t p) 64 + pn (fun p => !(atR l p).isSome && iv f t p) 64 := by
    rw [← pn_or 64]
    · exact pn_congr 64 (fun p _ => by cases (atR l p).isSome <;> cases iv f t p <;> rfl)
    · intro p _ a b
      cases h : (atR l p).isSome <;> simp [h] at a b
  have h3 := pn_nonneg (fun p => !(atR l p).isSome && iv f t p) 64
  rw [cnt_pages hs'.1 hs'.2.2 (hl.asc (by decide))]
  constructor
  · intro h p hp
    have hp' := iv_iff.1 hp
    have hz : pn (fun p => !(atR l p).isSome && iv f t p) 64 = 0 := by omega
    have := pn_zero.1 hz p.toNat (by omega)
    simp only [Int.toNat_of_nonneg (show 0 ≤ p by omega), hp, Bool.and_true, Bool.not_eq_false'] at this
    exact this
  · intro h
    have hz : pn (fun p => !(atR l p).isSome && iv f t p) 64 = 0 := pn_zero.2 (fun p _ => by
      cases hp : iv f t p with
      | false => simp
      | true => simp [h p hp])
    omega

theorem cnt_all {l : List R6} (hl : Good 0 none l) : cnt l 0 64 = pn (fun p => (atR l p).isSome) 64 := by
  rw [cnt_pages (Int.le_refl _) (Int.le_refl _) (hl.asc (by decide))]
  refine pn_congr 64 (fun p hp => ?_)
  rw [iv_iff.2 ⟨by omega, by omega⟩, Bool.and_true]

/-- What Add answers. -/
def wrE (l : List R6) (f t : Int) : Int := if rightR l then if isSp f t then 0 else 2 else 1
def addE (l : List R6) (x : R6) : Int := if wrE l x.1 x.2.1 = 0 then if 0 < cnt l x.1 x.2.1 then 7 else 0 else wrE l x.1 x.2.1
def addL (l : List R6) (x : R6) : List R6 := if addE l x = 0 then replL l x.1 x.2.1 [x] else []
def cutL (l : List R6) (f t : Int) : List R6 := if wrE l f t = 0 then replL l f t [] else []
def chE (l : List R6) (f t : Int) : Int := if wrE l f t = 0 then if cnt l f t < t - f then 3 else 0 else wrE l f t
def mapA (φ : A4 → A4) (l : List R6) : List R6 := l.map (fun x => (x.1, x.2.1, φ x.2.2))
def chL (φ : A4 → A4) (l : List R6) (f t : Int) : List R6 := if chE l f t = 0 then replL l f t (mapA φ (partL l f t)) else []

theorem wrE_iff {l : List R6} {f t : Int} : wrE l f t = 0 ↔ rightR l = true ∧ isSp f t = true := by
  unfold wrE
  cases rightR l <;> cases isSp f t <;> simp

theorem addE_iff {l : List R6} {x : R6} : addE l x = 0 ↔ wrE l x.1 x.2.1 = 0 ∧ cnt l x.1 x.2.1 ≤ 0 := by
  unfold addE
  by_cases h : wrE l x.1 x.2.1 = 0
  · rw [if_pos h]
    by_cases h2 : 0 < cnt l x.1 x.2.1
    · rw [if_pos h2]; simp; omega
    · rw [if_neg h2]; simp; omega
  · rw [if_neg h]; simp [h]

theorem chE_iff {l : List R6} {f t : Int} : chE l f t = 0 ↔ wrE l f t = 0 ∧ ¬ cnt l f t < t - f := by
  unfold chE
  by_cases h : wrE l f t = 0
  · rw [if_pos h]
    by_cases h2 : cnt l f t < t - f
    · rw [if_pos h2]; simp [h2]
    · rw [if_neg h2]; simp [h2, h]
  · rw [if_neg h]; simp [h]

theorem mapA_len (φ : A4 → A4) (l : List R6) : (mapA φ l).length = l.length := by simp [mapA]

/-- The first k are turned. -/
theorem mapA_step (φ : A4 → A4) (P : List R6) (k : Nat) (hk : k < P.length) : (mapA φ (P.take k) ++ P.drop k).set k ((P.getD k zR).1, (P.getD k zR).2.1, φ (P.getD k zR).2.2) = mapA φ (P.take (k + 1)) ++ P.drop (k + 1) := by
  have hl : (mapA φ (P.take k)).length = k := by rw [mapA_len, List.length_take]; omega
  have hg : P.getD k zR = P[k] := by rw [List.getD_eq_getElem?_getD, List.getElem?_eq_getElem hk]; rfl
  rw [List.set_append_right _ _ (by omega), hl, Nat.sub_self, List.drop_eq_getElem_cons hk, List.set_cons_zero, List.take_add_one, List.getElem?_eq_getElem hk, hg]
  unfold mapA
  rw [Option.toList_some, List.map_append]
  simp only [List.map_cons, List.map_nil, List.append_assoc, List.cons_append, List.nil_append]

theorem mapA_get (φ : A4 → A4) (P : List R6) (k : Nat) (hk : k < P.length) : (mapA φ (P.take k) ++ P.drop k).getD k zR = P.getD k zR := by
  have hl : (mapA φ (P.take k)).length = k := by rw [mapA_len, List.length_take]; omega
  rw [List.getD_eq_getElem?_getD, List.getElem?_append_right (by omega), hl, Nat.sub_self, List.getElem?_drop, Nat.add_zero, List.getD_eq_getElem?_getD]

theorem asc_map (φ : A4 → A4) : ∀ {l lo hi}, Asc lo hi l → Asc lo hi (mapA φ l)
  | [], _, _, h => h
  | x :: r, _, _, h => ⟨h.1, h.2.1, asc_map φ h.2.2⟩

theorem at_map (φ : A4 → A4) (p : Int) : ∀ l, atR (mapA φ l) p = (atR l p).map φ
  | [] => rfl
  | x :: r => by
    have := at_map φ p r
    simp only [mapA] at this ⊢
    rw [List.map_cons, atR, atR, this]
    simp only
    cases iv x.1 x.2.1 p <;> simp

/-- What Add does, page by page. -/
theorem add_pages {l : List R6} {x : R6} (h : addE l x = 0) : Good 0 none l ∧ isSp x.1 x.2.1 = true ∧ (∀ p, iv x.1 x.2.1 p = true → atR l p = none) ∧ Good 0 none (addL l x) ∧ ∀ p, atR (addL l x) p = if iv x.1 x.2.1 p then some x.2.2 else atR l p := by
  obtain ⟨h1, h2⟩ := addE_iff.1 h
  obtain ⟨h3, h4⟩ := wrE_iff.1 h1
  have hg := good_of_right h3
  have h4' := isSp_iff.1 h4
  have hc := cnt_bd (show x.1 ≤ x.2.1 by omega) l
  obtain ⟨g1, g2⟩ := repl_good hg h4 (inner := [x]) ⟨Int.le_refl _, h4'.2.1, Int.le_refl _⟩
  refine ⟨hg, h4, (cnt_zero hg h4).1 (by omega), by unfold addL; rw [if_pos h]; exact g1, fun p => ?_⟩
  unfold addL
  rw [if_pos h, g2 p]
  by_cases hp : iv x.1 x.2.1 p = true
  · rw [if_pos hp, if_pos hp, atR, if_pos hp]
  · rw [if_neg hp, if_neg hp]

theorem cut_pages {l : List R6} {f t : Int} (h : wrE l f t = 0) : Good 0 none l ∧ isSp f t = true ∧ Good 0 none (cutL l f t) ∧ ∀ p, atR (cutL l f t) p = if iv f t p then none else atR l p := by
  obtain ⟨h3, h4⟩ := wrE_iff.1 h
  have hg := good_of_right h3
  have h4' := isSp_iff.1 h4
  obtain ⟨g1, g2⟩ := repl_good hg h4 (inner := []) (show f ≤ t by omega)
  refine ⟨hg, h4, by unfold cutL; rw [if_pos h]; exact g1, fun p => ?_⟩
  unfold cutL
  rw [if_pos h, g2 p]
  rfl

theorem ch_pages {φ : A4 → A4} {l : List R6} {f t : Int} (h : chE l f t = 0) : Good 0 none l ∧ isSp f t = true ∧ (∀ p, iv f t p = true → (atR l p).isSome = true) ∧ Good 0 none (chL φ l f t) ∧ ∀ p, atR (chL φ l f t) p = if iv f t p then (atR l p).map φ else atR l p := by
  obtain ⟨h1, h2⟩ := chE_iff.1 h
  obtain ⟨h3, h4⟩ := wrE_iff.1 h1
  have hg := good_of_right h3
  have h4' := isSp_iff.1 h4
  obtain ⟨g1, g2⟩ := repl_good hg h4 (inner := mapA φ (partL l f t)) (asc_map φ (asc_part (by omega) (hg.asc (by decide))).1)
  refine ⟨hg, h4, (cnt_full hg h4).1 h2, by unfold chL; rw [if_pos h]; exact g1, fun p => ?_⟩
  unfold chL
  rw [if_pos h, g2 p, at_map, at_part]
  by_cases hp : iv f t p = true
  · rw [if_pos hp, if_pos hp, if_pos hp]
  · rw [if_neg hp, if_neg hp]

theorem ch_of {l : List R6} {f t : Int} (hg : Good 0 none l) (hs : isSp f t = true) (hp : ∀ p, iv f t p = true → (atR l p).isSome = true) : chE l f t = 0 :=
  chE_iff.2 ⟨wrE_iff.2 ⟨right_of_good hg, hs⟩, (cnt_full hg hs).2 hp⟩

theorem uniq {l m : List R6} (hl : Good 0 none l) (hm : Good 0 none m) (h : ∀ p, atR l p = atR m p) : l = m := good_unique hl hm (fun p _ => h p)

/-- RegionBack's sense. -/
theorem back_said {l : List R6} {x : R6} (h : addE l x = 0) : wrE (addL l x) x.1 x.2.1 = 0 ∧ cutL (addL l x) x.1 x.2.1 = l ∧ rightR (addL l x) = true ∧ cnt (addL l x) 0 64 = cnt l 0 64 + x.2.1 - x.1 := by
  obtain ⟨h1, h2, h3, h4, h5⟩ := add_pages h
  have hw : wrE (addL l x) x.1 x.2.1 = 0 := wrE_iff.2 ⟨right_of_good h4, h2⟩
  obtain ⟨-, -, c1, c2⟩ := cut_pages hw
  refine ⟨hw, uniq c1 h1 (fun p => ?_), right_of_good h4, ?_⟩
  · rw [c2, h5]
    by_cases hp : iv x.1 x.2.1 p = true
    · rw [if_pos hp, h3 p hp]
    · rw [if_neg hp, if_neg hp]
  · have h2' := isSp_iff.1 h2
    rw [cnt_all h4, cnt_all h1]
    have e : pn (fun p => (atR (addL l x) p).isSome) 64 = pn (fun p => (atR l p).isSome || iv x.1 x.2.1 p) 64 := pn_congr 64 (fun p _ => by
      rw [h5]
      cases hp : iv x.1 x.2.1 p <;> simp)
    rw [e, pn_or 64 (fun p _ a b => by rw [h3 p b] at a; cases a), pn_iv _ _ h2'.1, if_pos (by omega)]
    omega

/-- RegionPages' sense. -/
theorem pages_said {φ : A4 → A4} {l : List R6} {f t : Int} (h : chE l f t = 0) : (∀ p, (atR l p).isSome = (atR (chL φ l f t) p).isSome) ∧ cnt l 0 64 = cnt (chL φ l f t) 0 64 := by
  obtain ⟨h1, h2, h3, h4, h5⟩ := ch_pages (φ := φ) h
  have e : ∀ p, (atR l p).isSome = (atR (chL φ l f t) p).isSome := fun p => by
    rw [h5]
    cases hp : iv f t p <;> simp
  exact ⟨e, by rw [cnt_all h1, cnt_all h4]; exact pn_congr 64 (fun p _ => e p)⟩

theorem seal_once {φ : A4 → A4} (hφ : ∀ a, φ (φ a) = φ a) {l : List R6} {f t : Int} (h : chE l f t = 0) : chE (chL φ l f t) f t = 0 ∧ chL φ (chL φ l f t) f t = chL φ l f t := by
  obtain ⟨h1, h2, h3, h4, h5⟩ := ch_pages (φ := φ) h
  have e := (pages_said (φ := φ) h).1
  have hs : chE (chL φ l f t) f t = 0 := ch_of h4 h2 (fun p hp => by rw [← e]; exact h3 p hp)
  obtain ⟨-, -, -, g4, g5⟩ := ch_pages (φ := φ) hs
  refine ⟨hs, uniq g4 h4 (fun p => ?_)⟩
  rw [g5]
  by_cases hp : iv f t p = true
  · rw [if_pos hp, h5, if_pos hp, Option.map_map]
    congr 1
    funext a
    exact hφ a
  · rw [if_neg hp]

theorem cut_once {l : List R6} {f t : Int} (h : wrE l f t = 0) : wrE (cutL l f t) f t = 0 ∧ cutL (cutL l f t) f t = cutL l f t := by
  obtain ⟨h1, h2, h4, h5⟩ := cut_pages h
  have hs : wrE (cutL l f t) f t = 0 := wrE_iff.2 ⟨right_of_good h4, h2⟩
  obtain ⟨-, -, g4, g5⟩ := cut_pages hs
  refine ⟨hs, uniq g4 h4 (fun p => ?_)⟩
  rw [g5]
  by_cases hp : iv f t p = true
  · rw [if_pos hp, h5, if_pos hp]
  · rw [if_neg hp]

theorem apart_said {φ ψ : A4 → A4} {l : List R6} {f t o e : Int} (h : chE l f t = 0) (h2 : chE (chL φ l f t) o e = 0) (ha : ¬ (t > o ∧ e > f)) :
    chE l o e = 0 ∧ chE (chL ψ l o e) f t = 0 ∧ chL ψ (chL φ l f t) o e = chL φ (chL ψ l o e) f t := by
  obtain ⟨a1, a2, a3, a4, a5⟩ := ch_pages (φ := φ) h
  obtain ⟨-, b2, b3, b4, b5⟩ := ch_pages (φ := ψ) h2
  have ea := (pages_said (φ := φ) h).1
  have hj : chE l o e = 0 := ch_of a1 b2 (fun p hp => by rw [ea]; exact b3 p hp)
  obtain ⟨-, -, -, c4, c5⟩ := ch_pages (φ := ψ) hj
  have ec := (pages_said (φ := ψ) hj).1
  have hk : chE (chL ψ l o e) f t = 0 := ch_of c4 a2 (fun p hp => by rw [← ec]; exact a3 p hp)
  obtain ⟨-, -, -, d4, d5⟩ := ch_pages (φ := φ) hk
  refine ⟨hj, hk, uniq b4 d4 (fun p => ?_)⟩
  rw [b5, d5, a5, c5]
  have ha2 := isSp_iff.1 a2
  have hb2 := isSp_iff.1 b2
  cases h1 : iv f t p <;> cases h3 : iv o e p <;> simp
  rw [iv_iff] at h1 h3
  omega

end Go.Proofs.Ytgkniljbemkkhaf

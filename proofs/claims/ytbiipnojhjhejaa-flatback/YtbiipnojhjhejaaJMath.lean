/- Regions as lists of spans with what their pages are like: right lists are told by their pages; parts, joins, counts; no program is named. -/
import Derived.WalkKit
import Derived.Laws.BitsAllLaws
namespace Go.Proofs.Ytbiipnojhjhejaa
set_option maxRecDepth 100000
set_option linter.unusedSimpArgs false
set_option linter.unusedVariables false

/-- Rights, Key, Tagged, Sealed. -/
abbrev A4 := Int × Int × Bool × Bool
/-- From, To, and what they are like. -/
abbrev R6 := Int × Int × A4

/-- Whether p is one of pages f to t - 1. -/
def iv (f t p : Int) : Bool := decide (f ≤ p) && decide (p < t)
theorem iv_iff {f t p : Int} : iv f t p = true ↔ f ≤ p ∧ p < t := by simp [iv]

def isSp (f t : Int) : Bool := decide (0 ≤ f) && decide (f < t) && decide (t ≤ 64)
theorem isSp_iff {f t : Int} : isSp f t = true ↔ 0 ≤ f ∧ f < t ∧ t ≤ 64 := by simp [isSp, and_assoc]

/-- Whether y, which follows x, should be one with it. -/
def jo (x y : R6) : Bool := decide (x.2.1 = y.1) && decide (x.2.2 = y.2.2)
theorem jo_iff {x y : R6} : jo x y = true ↔ x.2.1 = y.1 ∧ x.2.2 = y.2.2 := by simp [jo]

def zR : R6 := (0, 0, 0, 0, false, false)
def zA : A4 := (0, 0, false, false)

/-- Whether the one at place i may stand there. -/
def okAt (l : List R6) (i : Nat) : Bool :=
  isSp (l.getD i zR).1 (l.getD i zR).2.1 && (decide (i = 0) || !(decide ((l.getD i zR).1 < (l.getD (i - 1) zR).2.1) || jo (l.getD (i - 1) zR) (l.getD i zR)))

def rightR (l : List R6) : Bool := (List.range l.length).all (okAt l)
theorem rightR_iff {l : List R6} : rightR l = true ↔ ∀ i, i < l.length → okAt l i = true := by simp [rightR]

/-- What the page is like by the first that has it. -/
def atR : List R6 → Int → Option A4
  | [], _ => none
  | x :: r, p => if iv x.1 x.2.1 p then some x.2.2 else atR r p

/-- Right from page lo on, where a span that ends at lo is like la. -/
def Good : Int → Option A4 → List R6 → Prop
  | _, _, [] => True
  | lo, la, x :: r => lo ≤ x.1 ∧ x.1 < x.2.1 ∧ x.2.1 ≤ 64 ∧ (x.1 = lo → la ≠ some x.2.2) ∧ Good x.2.1 (some x.2.2) r

/-- Spans that rise, from lo to hi. -/
def Asc : Int → Int → List R6 → Prop
  | lo, hi, [] => lo ≤ hi
  | lo, hi, x :: r => lo ≤ x.1 ∧ x.1 < x.2.1 ∧ Asc x.2.1 hi r

theorem Asc.le : ∀ {l lo hi}, Asc lo hi l → lo ≤ hi
  | [], _, _, h => h
  | x :: r, lo, hi, h => by have := Asc.le h.2.2; have := h.1; have := h.2.1; omega

theorem Asc.lower : ∀ {l lo lo' hi}, Asc lo hi l → lo' ≤ lo → Asc lo' hi l
  | [], _, _, _, h, h2 => Int.le_trans h2 h
  | x :: r, _, _, _, h, h2 => ⟨Int.le_trans h2 h.1, h.2⟩

theorem Asc.append : ∀ {l m lo mid hi}, Asc lo mid l → Asc mid hi m → Asc lo hi (l ++ m)
  | [], _, _, _, _, h, h2 => h2.lower h
  | x :: r, _, _, _, _, h, h2 => ⟨h.1, h.2.1, h.2.2.append h2⟩

theorem Good.asc : ∀ {l lo la}, Good lo la l → lo ≤ 64 → Asc lo 64 l
  | [], _, _, _, h => h
  | x :: r, _, _, h, _ => ⟨h.1, h.2.1, h.2.2.2.2.asc h.2.2.1⟩

theorem asc_len : ∀ {l lo hi}, Asc lo hi l → (l.length : Int) ≤ hi - lo
  | [], lo, hi, h => by have : lo ≤ hi := h; simp; omega
  | x :: r, lo, hi, h => by
    have h1 := h.1
    have h2 := h.2.1
    have := asc_len h.2.2
    rw [List.length_cons]
    omega

theorem good_len {l : List R6} (h : Good 0 none l) : l.length ≤ 64 := by
  have := asc_len (h.asc (by decide))
  omega

theorem at_lo : ∀ {l lo hi p}, Asc lo hi l → p < lo → atR l p = none
  | [], _, _, _, _, _ => rfl
  | x :: r, lo, hi, p, h, hp => by
    have h1 := h.1
    have h2 := h.2.1
    rw [atR, if_neg (by rw [iv_iff]; omega), at_lo h.2.2 (by omega)]

theorem at_hi : ∀ {l lo hi p}, Asc lo hi l → hi ≤ p → atR l p = none
  | [], _, _, _, _, _ => rfl
  | x :: r, lo, hi, p, h, hp => by
    have h1 := h.1
    have h2 := h.2.2.le
    rw [atR, if_neg (by rw [iv_iff]; omega), at_hi h.2.2 hp]

theorem at_end : ∀ {l lo a}, Good lo (some a) l → atR l lo ≠ some a
  | [], _, _, _, h => by simp [atR] at h
  | x :: r, lo, a, h, he => by
    have h1 := h.1
    have h2 := h.2.1
    rw [atR] at he
    by_cases hx : iv x.1 x.2.1 lo = true
    · rw [if_pos hx] at he
      rw [iv_iff] at hx
      exact h.2.2.2.1 (by omega) he.symm
    · rw [if_neg hx, at_lo (h.2.2.2.2.asc h.2.2.1) (by omega)] at he
      cases he

/-- Pages tell a right list. -/
theorem good_unique : ∀ {l m lo la}, Good lo la l → Good lo la m → (∀ p, lo ≤ p → atR l p = atR m p) → l = m
  | [], [], _, _, _, _, _ => rfl
  | [], y :: s, lo, la, _, hm, h => by
    have := h y.1 hm.1
    rw [atR, atR, if_pos (iv_iff.2 ⟨Int.le_refl _, hm.2.1⟩)] at this
    cases this
  | x :: r, [], lo, la, hl, _, h => by
    have := h x.1 hl.1
    rw [atR, atR, if_pos (iv_iff.2 ⟨Int.le_refl _, hl.2.1⟩)] at this
    cases this
  | (f, t, a) :: r, (f', t', a') :: s, lo, la, hl, hm, h => by
    obtain ⟨l1, l2, l3, l4, l5⟩ := hl
    obtain ⟨m1, m2, m3, m4, m5⟩ := hm
    simp only at l1 l2 l3 l4 l5 m1 m2 m3 m4 m5
    have hA := l5.asc l3
    have hB := m5.asc m3
    have hf : f = f' := by
      rcases Int.lt_trichotomy f f' with h1 | h1 | h1
      · have := h f l1
        rw [atR, atR, if_pos (iv_iff.2 ⟨Int.le_refl _, l2⟩), if_neg (by rw [iv_iff]; simp only; omega), at_lo hB (by omega)] at this
        cases this
      · exact h1
      · have := h f' m1
        rw [atR, atR, if_neg (by rw [iv_iff]; simp only; omega), if_pos (iv_iff.2 ⟨Int.le_refl _, m2⟩), at_lo hA (by omega)] at this
        cases this
    subst hf
    have ha : a = a' := by
      have := h f l1
      rw [atR, atR, if_pos (iv_iff.2 ⟨Int.le_refl _, l2⟩), if_pos (iv_iff.2 ⟨Int.le_refl _, m2⟩)] at this
      exact Option.some.inj this
    subst ha
    have ht : t = t' := by
      rcases Int.lt_trichotomy t t' with h1 | h1 | h1
      · have := h t (by omega)
        rw [atR, atR, if_neg (by rw [iv_iff]; simp only; omega), if_pos (iv_iff.2 ⟨by simp only; omega, h1⟩)] at this
        exact absurd this (at_end l5)
      · exact h1
      · have := h t' (by omega)
        rw [atR, atR, if_pos (iv_iff.2 ⟨by simp only; omega, h1⟩), if_neg (by rw [iv_iff]; simp only; omega)] at this
        exact absurd this.symm (at_end m5)
    subst ht
    rw [good_unique l5 m5 (fun p hp => by
      have := h p (by omega)
      rw [atR, atR, if_neg (by rw [iv_iff]; simp only; omega), if_neg (by rw [iv_iff]; simp only; omega)] at this
      exact this)]

/-- Right from place k of l on. -/
theorem good_drop (l : List R6) (h : ∀ i, i < l.length → okAt l i = true) : ∀ (j k : Nat), k + j = l.length → ∀ lo la, (k = 0 → lo = 0 ∧ la = none) → (0 < k → lo = (l.getD (k - 1) zR).2.1 ∧ la = some (l.getD (k - 1) zR).2.2) → Good lo la (l.drop k)
  | 0, k, hk, lo, la, _, _ => by rw [List.drop_of_length_le (by omega)]; trivial
  | j + 1, k, hk, lo, la, h0, h1 => by
    have hlt : k < l.length := by omega
    rw [List.drop_eq_getElem_cons hlt]
    have hok := h k hlt
    have hg : l.getD k zR = l[k] := by rw [List.getD_eq_getElem?_getD, List.getElem?_eq_getElem hlt]; rfl
    unfold okAt at hok
    rw [hg, Bool.and_eq_true, isSp_iff] at hok
    obtain ⟨⟨a1, a2, a3⟩, a4⟩ := hok
    have ih := good_drop l h j (k + 1) (by omega) l[k].2.1 (some l[k].2.2) (fun h => by omega) (fun _ => by rw [show k + 1 - 1 = k from rfl, hg]; exact ⟨rfl, rfl⟩)
    by_cases hz : k = 0
    · obtain ⟨rfl, rfl⟩ := h0 hz
      exact ⟨a1, a2, a3, (fun _ h => by cases h), ih⟩
    · obtain ⟨rfl, rfl⟩ := h1 (by omega)
      simp only [decide_eq_false hz, Bool.false_or, Bool.not_eq_true', Bool.or_eq_false_iff, decide_eq_false_iff_not] at a4
      refine ⟨by omega, a2, a3, fun he h => ?_, ih⟩
      have := a4.2
      rw [Bool.eq_false_iff] at this
      exact this (jo_iff.2 ⟨he.symm, Option.some.inj h⟩)

theorem good_of_right {l : List R6} (h : rightR l = true) : Good 0 none l := by
  have := good_drop l (rightR_iff.1 h) l.length 0 (by omega) 0 none (fun _ => ⟨rfl, rfl⟩) (fun h => by omega)
  rwa [List.drop_zero] at this

theorem okAt_succ (x : R6) (r : List R6) (i : Nat) : okAt (x :: r) (i + 1) = (isSp (r.getD i zR).1 (r.getD i zR).2.1 && !(decide ((r.getD i zR).1 < ((x :: r).getD i zR).2.1) || jo ((x :: r).getD i zR) (r.getD i zR))) := by
  unfold okAt
  rw [show i + 1 - 1 = i from rfl, List.getD_cons_succ, decide_eq_false (by omega), Bool.false_or]

theorem right_of_good' : ∀ {l lo la}, Good lo la l → 0 ≤ lo → ∀ i, i < l.length → okAt l i = true
  | [], _, _, _, _, i, hi => by simp at hi
  | x :: r, lo, la, h, h0, i, hi => by
    obtain ⟨h1, h2, h3, h4, h5⟩ := h
    have hx : isSp x.1 x.2.1 = true := isSp_iff.2 ⟨by omega, h2, h3⟩
    cases i with
    | zero => simp [okAt, hx]
    | succ i =>
      have ih := right_of_good' h5 (by omega) i (by simpa using hi)
      rw [okAt_succ]
      cases i with
      | zero =>
        cases r with
        | nil => simp at hi
        | cons y s =>
          obtain ⟨g1, g2, g3, g4, g5⟩ := h5
          simp only [List.getD_cons_zero]
          rw [isSp_iff.2 ⟨by omega, g2, g3⟩, Bool.true_and, Bool.not_eq_true', Bool.or_eq_false_iff, decide_eq_false_iff_not, Bool.eq_false_iff]
          refine ⟨by omega, fun hj => ?_⟩
          rw [jo_iff] at hj
          exact g4 hj.1.symm (by rw [hj.2])
      | succ i =>
        rw [List.getD_cons_succ]
        cases r with
        | nil => simp at hi
        | cons y s =>
          rw [okAt_succ] at ih
          rw [List.getD_cons_succ]
          exact ih

theorem right_of_good {l : List R6} (h : Good 0 none l) : rightR l = true := rightR_iff.2 (right_of_good' h (Int.le_refl _))
theorem right_iff_good {l : List R6} : rightR l = true ↔ Good 0 none l := ⟨good_of_right, right_of_good⟩

/-- What of x is in pages f to t - 1. -/
def clipR (x : R6) (f t : Int) : R6 := (max x.1 f, min x.2.1 t, x.2.2)
def clipB (x : R6) (f t : Int) : Bool := decide (max x.1 f < min x.2.1 t)

def partL (l : List R6) (f t : Int) : List R6 := (l.map (fun x => clipR x f t)).filter (fun y => decide (y.1 < y.2.1))

theorem partL_nil (f t : Int) : partL [] f t = [] := rfl
theorem partL_cons (x : R6) (r : List R6) (f t : Int) : partL (x :: r) f t = if clipB x f t then clipR x f t :: partL r f t else partL r f t := by
  simp only [partL, List.map_cons, List.filter_cons]
  rfl

theorem partL_len (l : List R6) (f t : Int) : (partL l f t).length ≤ l.length := by
  unfold partL
  exact Nat.le_trans (List.length_filter_le _ _) (by simp)

theorem clip_iv (x : R6) (f t p : Int) : iv (clipR x f t).1 (clipR x f t).2.1 p = (iv x.1 x.2.1 p && iv f t p) := by
  rw [Bool.eq_iff_iff, Bool.and_eq_true, iv_iff, iv_iff, iv_iff]
  simp only [clipR]
  omega

theorem at_part (f t p : Int) : ∀ l, atR (partL l f t) p = if iv f t p then atR l p else none
  | [] => by simp [partL, atR]
  | x :: r => by
    have ih := at_part f t p r
    rw [partL_cons]
    by_cases hc : clipB x f t = true
    · rw [if_pos hc, atR, clip_iv, ih, atR]
      by_cases h1 : iv x.1 x.2.1 p = true <;> by_cases h2 : iv f t p = true <;> simp [h1, h2, clipR]
    · rw [if_neg hc, ih, atR]
      by_cases h1 : iv x.1 x.2.1 p = true <;> by_cases h2 : iv f t p = true <;> simp [h1, h2]
      exfalso
      apply hc
      rw [iv_iff] at h1 h2
      simp only [clipB, decide_eq_true_eq]
      omega

theorem asc_part {f t : Int} (hft : f ≤ t) : ∀ {l lo hi}, Asc lo hi l → Asc f t (partL l f t) ∧ (lo ≤ t → Asc (max lo f) t (partL l f t))
  | [], lo, hi, h => ⟨hft, fun h => by show max lo f ≤ t; omega⟩
  | x :: r, lo, hi, h => by
    obtain ⟨h1, h2, h3⟩ := h
    obtain ⟨i1, i2⟩ := asc_part (f := f) (t := t) hft h3
    rw [partL_cons]
    by_cases hc : clipB x f t = true
    · have hc' := hc
      simp only [clipB, decide_eq_true_eq] at hc'
      rw [if_pos hc]
      have hr : Asc (min x.2.1 t) t (partL r f t) := by
        by_cases h4 : x.2.1 ≤ t
        · have := i2 h4
          exact this.lower (by omega)
        · have : partL r f t = [] := by
            have hh : ∀ {l : List R6} {lo hi : Int}, Asc lo hi l → t ≤ lo → partL l f t = [] := by
              intro l
              induction l with
              | nil => intros; rfl
              | cons y s ih =>
                intro lo hi hy hlo
                obtain ⟨y1, y2, y3⟩ := hy
                rw [partL_cons, if_neg (by simp only [clipB, decide_eq_true_eq]; omega)]
                exact ih y3 (by omega)
            exact hh h3 (by omega)
          rw [this]
          show _ ≤ _
          omega
      refine ⟨⟨?_, hc', hr⟩, fun _ => ⟨?_, hc', hr⟩⟩ <;> (simp only [clipR]; omega)
    · rw [if_neg hc]
      refine ⟨i1, fun hlo => ?_⟩
      simp only [clipB, decide_eq_true_eq] at hc
      by_cases h4 : x.2.1 ≤ t
      · exact (i2 h4).lower (by omega)
      · have : partL r f t = [] := by
          have hh : ∀ {l : List R6} {lo hi : Int}, Asc lo hi l → t ≤ lo → partL l f t = [] := by
            intro l
            induction l with
            | nil => intros; rfl
            | cons y s ih =>
              intro lo hi hy hlo
              obtain ⟨y1, y2, y3⟩ := hy
              rw [partL_cons, if_neg (by simp only [clipB, decide_eq_true_eq]; omega)]
              exact ih y3 (by omega)
          exact hh h3 (by omega)
        rw [this]
        show _ ≤ _
        omega

theorem at_append (p : Int) (m : List R6) : ∀ l, atR (l ++ m) p = (atR l p).or (atR m p)
  | [] => by simp [atR]
  | x :: r => by
    rw [List.cons_append, atR, atR, at_append p m r]
    by_cases h : iv x.1 x.2.1 p = true <;> simp [h]

/-- y with what follows: those that touch and are alike are one. -/
def jn2 (y : R6) : List R6 → List R6
  | [] => [y]
  | x :: r => if jo y x then jn2 (y.1, x.2.1, y.2.2) r else y :: jn2 x r

def joinL : List R6 → List R6
  | [] => []
  | x :: r => jn2 x r

/-- One more behind those that are joined. -/
def jn (acc : List R6) (x : R6) : List R6 :=
  if acc.length ≠ 0 ∧ jo (acc.getD (acc.length - 1) zR) x = true then acc.take (acc.length - 1) ++ [((acc.getD (acc.length - 1) zR).1, x.2.1, (acc.getD (acc.length - 1) zR).2.2)] else acc ++ [x]

theorem jn2_ne (y : R6) : ∀ r, jn2 y r ≠ []
  | [] => by simp [jn2]
  | x :: r => by
    rw [jn2]
    split
    · exact jn2_ne _ r
    · simp

theorem jn_cons (y x : R6) (acc : List R6) (h : acc ≠ []) : jn (y :: acc) x = y :: jn acc x := by
  cases acc with
  | nil => exact absurd rfl h
  | cons z s =>
    simp only [jn, List.length_cons, show s.length + 1 + 1 - 1 = s.length + 1 from rfl, show s.length + 1 - 1 = s.length from rfl, List.getD_cons_succ, List.take_succ_cons]
    by_cases hc : jo ((z :: s).getD s.length zR) x = true
    · rw [if_pos ⟨by omega, hc⟩, if_pos ⟨by omega, hc⟩]; rfl
    · rw [if_neg (fun h => hc h.2), if_neg (fun h => hc h.2)]; rfl

theorem jn2_snoc (x : R6) : ∀ (r : List R6) (y : R6), jn2 y (r ++ [x]) = jn (jn2 y r) x
  | [], y => by
    simp only [List.nil_append, jn2, jn, List.length_singleton, show 1 - 1 = 0 from rfl, List.getD_cons_zero, List.take_zero]
    by_cases h : jo y x = true
    · rw [if_pos h, if_pos ⟨by decide, h⟩]
    · rw [if_neg h, if_neg (fun hh => h hh.2)]; rfl
  | z :: r, y => by
    rw [List.cons_append, jn2, jn2]
    by_cases h : jo y z = true
    · rw [if_pos h, if_pos h, jn2_snoc x r]
    · rw [if_neg h, if_neg h, jn2_snoc x r, jn_cons _ _ _ (jn2_ne z r)]

theorem joinL_snoc (l : List R6) (x : R6) : joinL (l ++ [x]) = jn (joinL l) x := by
  cases l with
  | nil => simp [joinL, jn2, jn]
  | cons y r => exact jn2_snoc x r y

theorem jn_len (acc : List R6) (x : R6) : (jn acc x).length ≤ acc.length + 1 := by
  unfold jn
  split
  · rw [List.length_append, List.length_take, List.length_singleton]
    omega
  · simp

theorem joinL_len : ∀ (k : Nat) (l : List R6), (joinL (l.take k)).length ≤ k
  | 0, l => by simp [joinL]
  | k + 1, l => by
    have ih := joinL_len k l
    rw [List.take_add_one]
    cases h : l[k]? with
    | none => simp; omega
    | some x =>
      rw [Option.toList_some, joinL_snoc]
      have := jn_len (joinL (l.take k)) x
      omega

theorem jn2_good : ∀ (r : List R6) (y : R6) (lo hi : Int) (la : Option A4), lo ≤ y.1 → y.1 < y.2.1 → Asc y.2.1 hi r → hi ≤ 64 → (y.1 = lo → la ≠ some y.2.2) → Good lo la (jn2 y r)
  | [], y, lo, hi, la, h1, h2, h3, h4, h5 => ⟨h1, h2, by have := h3.le; omega, h5, trivial⟩
  | x :: r, y, lo, hi, la, h1, h2, h3, h4, h5 => by
    obtain ⟨g1, g2, g3⟩ := h3
    rw [jn2]
    by_cases hj : jo y x = true
    · rw [if_pos hj]
      exact jn2_good r (y.1, x.2.1, y.2.2) lo hi la h1 (by simp only; omega) g3 h4 h5
    · rw [if_neg hj]
      refine ⟨h1, h2, by have := g3.le; omega, h5, jn2_good r x y.2.1 hi (some y.2.2) g1 g2 g3 h4 (fun he ha => hj (jo_iff.2 ⟨he.symm, Option.some.inj ha⟩))⟩

theorem jn2_at (p : Int) : ∀ (r : List R6) (y : R6) (hi : Int), y.1 < y.2.1 → Asc y.2.1 hi r → atR (jn2 y r) p = atR (y :: r) p
  | [], y, hi, _, _ => rfl
  | x :: r, y, hi, h2, h3 => by
    obtain ⟨g1, g2, g3⟩ := h3
    rw [jn2]
    by_cases hj : jo y x = true
    · rw [if_pos hj, jn2_at p r (y.1, x.2.1, y.2.2) hi (by simp only; omega) g3]
      rw [jo_iff] at hj
      rw [atR, atR, atR]
      simp only
      by_cases ha : iv y.1 y.2.1 p = true <;> by_cases hb : iv x.1 x.2.1 p = true <;> by_cases hc : iv y.1 x.2.1 p = true <;> simp only [ha, hb, hc, if_true, if_false, Bool.false_eq_true] <;> rw [iv_iff] at ha hb hc <;> first | rfl | (exfalso; omega) | (rw [hj.2])
    · rw [if_neg hj, atR, atR, jn2_at p r x hi g2 g3]

theorem joinL_good {l : List R6} (h : Asc 0 64 l) : Good 0 none (joinL l) := by
  cases l with
  | nil => trivial
  | cons x r => exact jn2_good r x 0 64 none h.1 h.2.1 h.2.2 (Int.le_refl _) (fun _ h => by cases h)

theorem joinL_at {l : List R6} (h : Asc 0 64 l) (p : Int) : atR (joinL l) p = atR l p := by
  cases l with
  | nil => rfl
  | cons x r => exact jn2_at p r x 64 h.2.1 h.2.2

/-- l with inner in the place of pages f to t - 1. -/
def replL (l : List R6) (f t : Int) (inner : List R6) : List R6 := joinL (partL l 0 f ++ inner ++ partL l t 64)

theorem repl_asc {l : List R6} {f t : Int} {inner : List R6} (hl : Asc 0 64 l) (hf : 0 ≤ f) (ht : t ≤ 64) (hi : Asc f t inner) : Asc 0 64 (partL l 0 f ++ inner ++ partL l t 64) :=
  (((asc_part hf hl).1).append hi).append (asc_part ht hl).1

theorem repl_good {l : List R6} {f t : Int} {inner : List R6} (hl : Good 0 none l) (hs : isSp f t = true) (hi : Asc f t inner) :
    Good 0 none (replL l f t inner) ∧ ∀ p, atR (replL l f t inner) p = if iv f t p then atR inner p else atR l p := by
  rw [isSp_iff] at hs
  have hA := hl.asc (by decide)
  have h := repl_asc hA hs.1 hs.2.2 hi
  refine ⟨joinL_good h, fun p => ?_⟩
  unfold replL
  rw [joinL_at h, at_append, at_append, at_part, at_part]
  by_cases h1 : iv f t p = true
  · rw [iv_iff] at h1
    have a : iv 0 f p = false := by rw [Bool.eq_false_iff, ne_eq, iv_iff]; omega
    have b : iv t 64 p = false := by rw [Bool.eq_false_iff, ne_eq, iv_iff]; omega
    rw [a, b, iv_iff.2 h1]
    simp
  · rw [if_neg h1]
    rw [iv_iff] at h1
    have hn : atR inner p = none := by
      by_cases h2 : p < f
      · exact at_lo hi h2
      · exact at_hi hi (by omega)
    rw [hn]
    by_cases h2 : p < f
    · have b : iv t 64 p = false := by rw [Bool.eq_false_iff, ne_eq, iv_iff]; omega
      rw [b]
      by_cases h3 : 0 ≤ p
      · rw [iv_iff.2 ⟨h3, h2⟩]; simp
      · rw [at_lo hA (by omega)]; simp
    · have a : iv 0 f p = false := by rw [Bool.eq_false_iff, ne_eq, iv_iff]; omega
      rw [a]
      by_cases h3 : p < 64
      · rw [iv_iff.2 ⟨by omega, h3⟩]; simp
      · rw [at_hi hA (by omega)]; simp

/-- How many of pages 0 to n - 1 are g. -/
def pn (g : Int → Bool) : Nat → Int
  | 0 => 0
  | n + 1 => pn g n + if g n then 1 else 0

theorem pn_congr {g h : Int → Bool} : ∀ n, (∀ p : Nat, p < n → g p = h p) → pn g n = pn h n
  | 0, _ => rfl
  | n + 1, hh => by rw [pn, pn, pn_congr n (fun p hp => hh p (by omega)), hh n (by omega)]

theorem pn_or {g h : Int → Bool} : ∀ n, (∀ p : Nat, p < n → g p = true → h p = true → False) → pn (fun p => g p || h p) n = pn g n + pn h n
  | 0, _ => rfl
  | n + 1, hh => by
    rw [pn, pn, pn, pn_or n (fun p hp => hh p (by omega))]
    have := hh n (by omega)
    cases hg : g n <;> cases hk : h n <;> simp [hg, hk] at this ⊢ <;> omega

theorem pn_nonneg (g : Int → Bool) : ∀ n, 0 ≤ pn g n
  | 0 => Int.le_refl _
  | n + 1 => by
    have := pn_nonneg g n
    rw [pn]
    split <;> omega

theorem pn_zero {g : Int → Bool} : ∀ {n}, pn g n = 0 ↔ ∀ p : Nat, p < n → g p = false
  | 0 => ⟨fun _ p hp => by omega, fun _ => rfl⟩
  | n + 1 => by
    have h0 := pn_nonneg g n
    rw [pn]
    constructor
    · intro h p hp
      cases hg : g n with
      | true => rw [hg] at h; simp at h; omega
      | false =>
        rw [hg] at h
        simp at h
        by_cases he : p = n
        · rw [he, hg]
        · exact pn_zero.1 h p (by omega)
    · intro h
      rw [pn_zero.2 (fun p hp => h p (by omega)), h n (by omega)]
      rfl

theorem pn_iv (a b : Int) (ha : 0 ≤ a) : ∀ n : Nat, pn (iv a b) n = if a < min b n then min b n - a else 0
  | 0 => by rw [pn, if_neg (by omega)]
  | n + 1 => by
    rw [pn, pn_iv a b ha n]
    by_cases h : iv a b n = true
    · rw [if_pos h]
      rw [iv_iff] at h
      split <;> split <;> omega
    · rw [if_neg h]
      rw [iv_iff] at h
      split <;> split <;> omega

/-- How many of pages f to t - 1 those of l have, each for itself. -/
def cnt : List R6 → Int → Int → Int
  | [], _, _ => 0
  | x :: r, f, t => (if clipB x f t then (clipR x f t).2.1 - (clipR x f t).1 else 0) + cnt r f t

theorem cnt_snoc (x : R6) (f t : Int) : ∀ l, cnt (l ++ [x]) f t = cnt l f t + (if clipB x f t then (clipR x f t).2.1 - (clipR x f t).1 else 0)
  | [] => by simp [cnt]
  | y :: r => by rw [List.cons_append, cnt, cnt, cnt_snoc x f t r]; omega

theorem cnt_part_nil (f t : Int) : ∀ l, partL l f t = [] → cnt l f t = 0
  | [], _ => rfl
  | x :: r, h => by
    rw [partL_cons] at h
    cases hc : clipB x f t with
    | true => rw [hc] at h; simp at h
    | false =>
      rw [hc] at h
      rw [cnt, hc, cnt_part_nil f t r (by simpa using h)]
      rfl

theorem clip_pn (x : R6) {f t : Int} (hf : 0 ≤ f) (ht : t ≤ 64) : (if clipB x f t then (clipR x f t).2.1 - (clipR x f t).1 else 0) = pn (fun p => iv x.1 x.2.1 p && iv f t p) 64 := by
  have h := pn_iv (max x.1 f) (min x.2.1 t) (by omega) 64
  have e : pn (iv (max x.1 f) (min x.2.1 t)) 64 = pn (fun p => iv x.1 x.2.1 p && iv f t p) 64 := pn_congr 64 (fun p _ => clip_iv x f t p)
  rw [← e, h]
  simp only [clipB, clipR, decide_eq_true_eq]
  split <;> split <;> omega

theorem clip_bd (x : R6) {f t : Int} (hft : f ≤ t) : 0 ≤ (if clipB x f t then (clipR x f t).2.1 - (clipR x f t).1 else 0) ∧ (if clipB x f t then (clipR x f t).2.1 - (clipR x f t).1 else 0) ≤ t - f := by
  by_cases h : clipB x f t = true
  · rw [if_pos h]
    simp only [clipB, decide_eq_true_eq] at h
    simp only [clipR]
    omega
  · rw [if_neg h]
    omega

theorem cnt_bd {f t : Int} (hft : f ≤ t) : ∀ l, 0 ≤ cnt l f t ∧ cnt l f t ≤ l.length * (t - f)
  | [] => by simp [cnt]
  | x :: r => by
    have h1 := cnt_bd hft r
    have h2 := clip_bd x hft
    rw [cnt, List.length_cons, Int.natCast_add, Int.add_mul]
    omega

theorem cnt_pages {f t : Int} (hf : 0 ≤ f) (ht : t ≤ 64) : ∀ {l lo hi}, Asc lo hi l → cnt l f t = pn (fun p => (atR l p).isSome && iv f t p) 64
  | [], _, _, _ => by
    rw [cnt]
    exact (pn_zero.2 (fun p _ => by simp [atR])).symm
  | x :: r, lo, hi, h => by
    rw [cnt, clip_pn x hf ht, cnt_pages hf ht h.2.2, ← pn_or 64]
    · refine pn_congr 64 (fun p _ => ?_)
      simp only [atR]
      cases h1 : iv x.1 x.2.1 p <;> cases h2 : iv f t p <;> simp
    · intro p _ h1 h2
      simp only [Bool.and_eq_true, iv_iff] at h1 h2
      rw [at_lo h.2.2 h1.1.2] at h2
      simp at h2

theorem cnt_zero {l : List R6} {f t : Int} (hl : Good 0 none l) (hs : isSp f t = true) : cnt l f t = 0 ↔ ∀ p, iv f t p = true → atR l p = none := by
  rw [isSp_iff] at hs
  rw [cnt_pages hs.1 hs.2.2 (hl.asc (by decide)), pn_zero]
  constructor
  · intro h p hp
    have hp' := iv_iff.1 hp
    have := h p.toNat (by omega)
    rw [Int.toNat_of_nonneg (by omega), hp, Bool.and_true, Option.isSome_eq_false_iff, Option.isNone_iff_eq_none] at this
    exact this
  · intro h p _
    cases hp : iv f t p with
    | false => simp
    | true => rw [h p hp]; rfl

theorem cnt_full {l : List R6} {f t : Int} (hl : Good 0 none l) (hs : isSp f t = true) : ¬ cnt l f t < t - f ↔ ∀ p, iv f t p = true → (atR l p).isSome = true := by
  have hs' := isSp_iff.1 hs
  have h1 : pn (iv f t) 64 = t - f := by rw [pn_iv f t hs'.1 64, if_pos (by omega)]; omega
  have h2 : pn (iv f t) 64 = pn (fun p => (atR l p).isSome && iv f t p) 64 + pn (fun p => !(atR l p).isSome && iv f t p) 64 := by
    rw [← pn_or 64]
    · exact pn_congr 64 (fun p _ => by cases (atR l p).isSome <;> cases iv f t p <;> rfl)
    · intro p _ a b
      cases h : (atR l p).isSome <;> simp [h] at a b
  have h3 := pn_nonneg (fun p => !(atR l p).isSome && iv f t p) 64
  rw [cnt_pages hs'.1 hs'.2.2 (hl.asc (by decide))]
  constructor
  · intro h p hp
    have hp' := iv_iff.1 hp
    have hz : pn (fun p => !(atR l p).isSome && iv f t p) 64 = 0 := by omega
    have := pn_zero.1 hz p.toNat (by omega)
    simp only [Int.toNat_of_nonneg (show 0 ≤ p by omega), hp, Bool.and_true, Bool.not_eq_false'] at this
    exact this
  · intro h
    have hz : pn (fun p => !(atR l p).isSome && iv f t p) 64 = 0 := pn_zero.2 (fun p _ => by
      cases hp : iv f t p with
      | false => simp
      | true => simp [h p hp])
    omega

theorem cnt_all {l : List R6} (hl : Good 0 none l) : cnt l 0 64 = pn (fun p => (atR l p).isSome) 64 := by
  rw [cnt_pages (Int.le_refl _) (Int.le_refl _) (hl.asc (by decide))]
  refine pn_congr 64 (fun p hp => ?_)
  rw [iv_iff.2 ⟨by omega, by omega⟩, Bool.and_true]

/-- What Add answers. -/
def wrE (l : List R6) (f t : Int) : Int := if rightR l then if isSp f t then 0 else 2 else 1
def addE (l : List R6) (x : R6) : Int := if wrE l x.1 x.2.1 = 0 then if 0 < cnt l x.1 x.2.1 then 7 else 0 else wrE l x.1 x.2.1
def addL (l : List R6) (x : R6) : List R6 := if addE l x = 0 then replL l x.1 x.2.1 [x] else []
def cutL (l : List R6) (f t : Int) : List R6 := if wrE l f t = 0 then replL l f t [] else []
def chE (l : List R6) (f t : Int) : Int := if wrE l f t = 0 then if cnt l f t < t - f then 3 else 0 else wrE l f t
def mapA (φ : A4 → A4) (l : List R6) : List R6 := l.map (fun x => (x.1, x.2.1, φ x.2.2))
def chL (φ : A4 → A4) (l : List R6) (f t : Int) : List R6 := if chE l f t = 0 then replL l f t (mapA φ (partL l f t)) else []

theorem wrE_iff {l : List R6} {f t : Int} : wrE l f t = 0 ↔ rightR l = true ∧ isSp f t = true := by
  unfold wrE
  cases rightR l <;> cases isSp f t <;> simp

theorem addE_iff {l : List R6} {x : R6} : addE l x = 0 ↔ wrE l x.1 x.2.1 = 0 ∧ cnt l x.1 x.2.1 ≤ 0 := by
  unfold addE
  by_cases h : wrE l x.1 x.2.1 = 0
  · rw [if_pos h]
    by_cases h2 : 0 < cnt l x.1 x.2.1
    · rw [if_pos h2]; simp; omega
    · rw [if_neg h2]; simp; omega
  · rw [if_neg h]; simp [h]

theorem chE_iff {l : List R6} {f t : Int} : chE l f t = 0 ↔ wrE l f t = 0 ∧ ¬ cnt l f t < t - f := by
  unfold chE
  by_cases h : wrE l f t = 0
  · rw [if_pos h]
    by_cases h2 : cnt l f t < t - f
    · rw [if_pos h2]; simp [h2]
    · rw [if_neg h2]; simp [h2, h]
  · rw [if_neg h]; simp [h]

theorem mapA_len (φ : A4 → A4) (l : List R6) : (mapA φ l).length = l.length := by simp [mapA]

/-- The first k are turned. -/
theorem mapA_step (φ : A4 → A4) (P : List R6) (k : Nat) (hk : k < P.length) : (mapA φ (P.take k) ++ P.drop k).set k ((P.getD k zR).1, (P.getD k zR).2.1, φ (P.getD k zR).2.2) = mapA φ (P.take (k + 1)) ++ P.drop (k + 1) := by
  have hl : (mapA φ (P.take k)).length = k := by rw [mapA_len, List.length_take]; omega
  have hg : P.getD k zR = P[k] := by rw [List.getD_eq_getElem?_getD, List.getElem?_eq_getElem hk]; rfl
  rw [List.set_append_right _ _ (by omega), hl, Nat.sub_self, List.drop_eq_getElem_cons hk, List.set_cons_zero, List.take_add_one, List.getElem?_eq_getElem hk, hg]
  unfold mapA
  rw [Option.toList_some, List.map_append]
  simp only [List.map_cons, List.map_nil, List.append_assoc, List.cons_append, List.nil_append]

theorem mapA_get (φ : A4 → A4) (P : List R6) (k : Nat) (hk : k < P.length) : (mapA φ (P.take k) ++ P.drop k).getD k zR = P.getD k zR := by
  have hl : (mapA φ (P.take k)).length = k := by rw [mapA_len, List.length_take]; omega
  rw [List.getD_eq_getElem?_getD, List.getElem?_append_right (by omega), hl, Nat.sub_self, List.getElem?_drop, Nat.add_zero, List.getD_eq_getElem?_getD]

theorem asc_map (φ : A4 → A4) : ∀ {l lo hi}, Asc lo hi l → Asc lo hi (mapA φ l)
  | [], _, _, h => h
  | x :: r, _, _, h => ⟨h.1, h.2.1, asc_map φ h.2.2⟩

theorem at_map (φ : A4 → A4) (p : Int) : ∀ l, atR (mapA φ l) p = (atR l p).map φ
  | [] => rfl
  | x :: r => by
    have := at_map φ p r
    simp only [mapA] at this ⊢
    rw [List.map_cons, atR, atR, this]
    simp only
    cases iv x.1 x.2.1 p <;> simp

/-- What Add does, page by page. -/
theorem add_pages {l : List R6} {x : R6} (h : addE l x = 0) : Good 0 none l ∧ isSp x.1 x.2.1 = true ∧ (∀ p, iv x.1 x.2.1 p = true → atR l p = none) ∧ Good 0 none (addL l x) ∧ ∀ p, atR (addL l x) p = if iv x.1 x.2.1 p then some x.2.2 else atR l p := by
  obtain ⟨h1, h2⟩ := addE_iff.1 h
  obtain ⟨h3, h4⟩ := wrE_iff.1 h1
  have hg := good_of_right h3
  have h4' := isSp_iff.1 h4
  have hc := cnt_bd (show x.1 ≤ x.2.1 by omega) l
  obtain ⟨g1, g2⟩ := repl_good hg h4 (inner := [x]) ⟨Int.le_refl _, h4'.2.1, Int.le_refl _⟩
  refine ⟨hg, h4, (cnt_zero hg h4).1 (by omega), by unfold addL; rw [if_pos h]; exact g1, fun p => ?_⟩
  unfold addL
  rw [if_pos h, g2 p]
  by_cases hp : iv x.1 x.2.1 p = true
  · rw [if_pos hp, if_pos hp, atR, if_pos hp]
  · rw [if_neg hp, if_neg hp]

theorem cut_pages {l : List R6} {f t : Int} (h : wrE l f t = 0) : Good 0 none l ∧ isSp f t = true ∧ Good 0 none (cutL l f t) ∧ ∀ p, atR (cutL l f t) p = if iv f t p then none else atR l p := by
  obtain ⟨h3, h4⟩ := wrE_iff.1 h
  have hg := good_of_right h3
  have h4' := isSp_iff.1 h4
  obtain ⟨g1, g2⟩ := repl_good hg h4 (inner := []) (show f ≤ t by omega)
  refine ⟨hg, h4, by unfold cutL; rw [if_pos h]; exact g1, fun p => ?_⟩
  unfold cutL
  rw [if_pos h, g2 p]
  rfl

theorem ch_pages {φ : A4 → A4} {l : List R6} {f t : Int} (h : chE l f t = 0) : Good 0 none l ∧ isSp f t = true ∧ (∀ p, iv f t p = true → (atR l p).isSome = true) ∧ Good 0 none (chL φ l f t) ∧ ∀ p, atR (chL φ l f t) p = if iv f t p then (atR l p).map φ else atR l p := by
  obtain ⟨h1, h2⟩ := chE_iff.1 h
  obtain ⟨h3, h4⟩ := wrE_iff.1 h1
  have hg := good_of_right h3
  have h4' := isSp_iff.1 h4
  obtain ⟨g1, g2⟩ := repl_good hg h4 (inner := mapA φ (partL l f t)) (asc_map φ (asc_part (by omega) (hg.asc (by decide))).1)
  refine ⟨hg, h4, (cnt_full hg h4).1 h2, by unfold chL; rw [if_pos h]; exact g1, fun p => ?_⟩
  unfold chL
  rw [if_pos h, g2 p, at_map, at_part]
  by_cases hp : iv f t p = true
  · rw [if_pos hp, if_pos hp, if_pos hp]
  · rw [if_neg hp, if_neg hp]

theorem ch_of {l : List R6} {f t : Int} (hg : Good 0 none l) (hs : isSp f t = true) (hp : ∀ p, iv f t p = true → (atR l p).isSome = true) : chE l f t = 0 :=
  chE_iff.2 ⟨wrE_iff.2 ⟨right_of_good hg, hs⟩, (cnt_full hg hs).2 hp⟩

theorem uniq {l m : List R6} (hl : Good 0 none l) (hm : Good 0 none m) (h : ∀ p, atR l p = atR m p) : l = m := good_unique hl hm (fun p _ => h p)

/-- RegionBack's sense. -/
theorem back_said {l : List R6} {x : R6} (h : addE l x = 0) : wrE (addL l x) x.1 x.2.1 = 0 ∧ cutL (addL l x) x.1 x.2.1 = l ∧ rightR (addL l x) = true ∧ cnt (addL l x) 0 64 = cnt l 0 64 + x.2.1 - x.1 := by
  obtain ⟨h1, h2, h3, h4, h5⟩ := add_pages h
  have hw : wrE (addL l x) x.1 x.2.1 = 0 := wrE_iff.2 ⟨right_of_good h4, h2⟩
  obtain ⟨-, -, c1, c2⟩ := cut_pages hw
  refine ⟨hw, uniq c1 h1 (fun p => ?_), right_of_good h4, ?_⟩
  · rw [c2, h5]
    by_cases hp : iv x.1 x.2.1 p = true
    · rw [if_pos hp, h3 p hp]
    · rw [if_neg hp, if_neg hp]
  · have h2' := isSp_iff.1 h2
    rw [cnt_all h4, cnt_all h1]
    have e : pn (fun p => (atR (addL l x) p).isSome) 64 = pn (fun p => (atR l p).isSome || iv x.1 x.2.1 p) 64 := pn_congr 64 (fun p _ => by
      rw [h5]
      cases hp : iv x.1 x.2.1 p <;> simp)
    rw [e, pn_or 64 (fun p _ a b => by rw [h3 p b] at a; cases a), pn_iv _ _ h2'.1, if_pos (by omega)]
    omega

/-- RegionPages' sense. -/
theorem pages_said {φ : A4 → A4} {l : List R6} {f t : Int} (h : chE l f t = 0) : (∀ p, (atR l p).isSome = (atR (chL φ l f t) p).isSome) ∧ cnt l 0 64 = cnt (chL φ l f t) 0 64 := by
  obtain ⟨h1, h2, h3, h4, h5⟩ := ch_pages (φ := φ) h
  have e : ∀ p, (atR l p).isSome = (atR (chL φ l f t) p).isSome := fun p => by
    rw [h5]
    cases hp : iv f t p <;> simp
  exact ⟨e, by rw [cnt_all h1, cnt_all h4]; exact pn_congr 64 (fun p _ => e p)⟩

theorem seal_once {φ : A4 → A4} (hφ : ∀ a, φ (φ a) = φ a) {l : List R6} {f t : Int} (h : chE l f t = 0) : chE (chL φ l f t) f t = 0 ∧ chL φ (chL φ l f t) f t = chL φ l f t := by
  obtain ⟨h1, h2, h3, h4, h5⟩ := ch_pages (φ := φ) h
  have e := (pages_said (φ := φ) h).1
  have hs : chE (chL φ l f t) f t = 0 := ch_of h4 h2 (fun p hp => by rw [← e]; exact h3 p hp)
  obtain ⟨-, -, -, g4, g5⟩ := ch_pages (φ := φ) hs
  refine ⟨hs, uniq g4 h4 (fun p => ?_)⟩
  rw [g5]
  by_cases hp : iv f t p = true
  · rw [if_pos hp, h5, if_pos hp, Option.map_map]
    congr 1
    funext a
    exact hφ a
  · rw [if_neg hp]

theorem cut_once {l : List R6} {f t : Int} (h : wrE l f t = 0) : wrE (cutL l f t) f t = 0 ∧ cutL (cutL l f t) f t = cutL l f t := by
  obtain ⟨h1, h2, h4, h5⟩ := cut_pages h
  have hs : wrE (cutL l f t) f t = 0 := wrE_iff.2 ⟨right_of_good h4, h2⟩
  obtain ⟨-, -, g4, g5⟩ := cut_pages hs
  refine ⟨hs, uniq g4 h4 (fun p => ?_)⟩
  rw [g5]
  by_cases hp : iv f t p = true
  · rw [if_pos hp, h5, if_pos hp]
  · rw [if_neg hp]

theorem apart_said {φ ψ : A4 → A4} {l : List R6} {f t o e : Int} (h : chE l f t = 0) (h2 : chE (chL φ l f t) o e = 0) (ha : ¬ (t > o ∧ e > f)) :
    chE l o e = 0 ∧ chE (chL ψ l o e) f t = 0 ∧ chL ψ (chL φ l f t) o e = chL φ (chL ψ l o e) f t := by
  obtain ⟨a1, a2, a3, a4, a5⟩ := ch_pages (φ := φ) h
  obtain ⟨-, b2, b3, b4, b5⟩ := ch_pages (φ := ψ) h2
  have ea := (pages_said (φ := φ) h).1
  have hj : chE l o e = 0 := ch_of a1 b2 (fun p hp => by rw [ea]; exact b3 p hp)
  obtain ⟨-, -, -, c4, c5⟩ := ch_pages (φ := ψ) hj
  have ec := (pages_said (φ := ψ) hj).1
  have hk : chE (chL ψ l o e) f t = 0 := ch_of c4 a2 (fun p hp => by rw [← ec]; exact a3 p hp)
  obtain ⟨-, -, -, d4, d5⟩ := ch_pages (φ := φ) hk
  refine ⟨hj, hk, uniq b4 d4 (fun p => ?_)⟩
  rw [b5, d5, a5, c5]
  have ha2 := isSp_iff.1 a2
  have hb2 := isSp_iff.1 b2
  cases h1 : iv f t p <;> cases h3 : iv o e p <;> simp
  rw [iv_iff] at h1 h3
  omega

/-- What Turn, Seal and Guard make of what a page is like. -/
def tuA (a : A4) : A4 → A4 := fun _ => a
def seA : A4 → A4 := fun a => (a.1, a.2.1, a.2.2.1, true)
def guA (r k : Int) : A4 → A4 := fun a => (r, k, a.2.2.1, a.2.2.2)

end Go.Proofs.Ytbiipnojhjhejaa

/- Where there is room: the pages from which on so many have room, with a page between; what is chosen of them; no program is named. -/
namespace Go.Proofs.Ytbiipnojhjhejaa
set_option maxRecDepth 100000
set_option linter.unusedSimpArgs false
set_option linter.unusedVariables false

/-- Whether x has one of pages f to t. -/
def meetR (f t : Int) (x : R6) : Bool := decide (x.1 ≤ t) && decide (f < x.2.1)
/-- Whether none of pages f to t is in l. -/
def fre (l : List R6) (f t : Int) : Bool := !l.any (meetR f t)

theorem at_none : ∀ {l : List R6} {q : Int}, atR l q = none ↔ ∀ x ∈ l, iv x.1 x.2.1 q = false
  | [], _ => by simp [atR]
  | x :: r, q => by
    rw [atR, List.forall_mem_cons, ← at_none]
    cases iv x.1 x.2.1 q <;> simp

theorem asc_mem : ∀ {l lo hi}, Asc lo hi l → ∀ x ∈ l, lo ≤ x.1 ∧ x.1 < x.2.1 ∧ x.2.1 ≤ hi
  | [], _, _, _, x, hx => by simp at hx
  | y :: r, lo, hi, h, x, hx => by
    obtain ⟨h1, h2, h3⟩ := h
    have := h3.le
    rcases List.mem_cons.1 hx with rfl | hx
    · exact ⟨h1, h2, this⟩
    · have := asc_mem h3 x hx
      omega

theorem fre_mem {l : List R6} {f t : Int} : fre l f t = true ↔ ∀ x ∈ l, x.2.1 ≤ f ∨ t < x.1 := by
  unfold fre meetR
  rw [Bool.not_eq_true', List.any_eq_false]
  constructor
  · intro h x hx
    have := h x hx
    simp at this
    omega
  · intro h x hx
    have := h x hx
    simp
    omega

theorem fre_iff {l : List R6} {lo hi f t : Int} (h : Asc lo hi l) (hft : f ≤ t) : fre l f t = true ↔ ∀ q, f ≤ q → q ≤ t → atR l q = none := by
  rw [fre_mem]
  constructor
  · intro hh q h1 h2
    rw [at_none]
    intro x hx
    have := hh x hx
    rw [Bool.eq_false_iff, ne_eq, iv_iff]
    omega
  · intro hh x hx
    have hm := asc_mem h x hx
    by_cases hc : x.2.1 ≤ f ∨ t < x.1
    · exact hc
    · exfalso
      have := at_none.1 (hh (max x.1 f) (by omega) (by omega)) x hx
      rw [Bool.eq_false_iff, ne_eq, iv_iff] at this
      omega

/-- Of pages 0 to n - 1 those from which on c pages have room. -/
def upP (l : List R6) (c : Int) : Nat → List Int
  | 0 => []
  | n + 1 => if fre l ((n : Int) - 1) ((n : Int) + c) then upP l c n ++ [(n : Int)] else upP l c n

theorem upP_yes {l : List R6} {c : Int} {n : Nat} (h : fre l ((n : Int) - 1) ((n : Int) + c) = true) : upP l c (n + 1) = upP l c n ++ [(n : Int)] := by rw [upP, if_pos h]
theorem upP_no {l : List R6} {c : Int} {n : Nat} (h : fre l ((n : Int) - 1) ((n : Int) + c) = false) : upP l c (n + 1) = upP l c n := by rw [upP, if_neg (by rw [h]; decide)]

theorem upP_len (l : List R6) (c : Int) : ∀ n, (upP l c n).length ≤ n
  | 0 => Nat.le_refl _
  | n + 1 => by
    have := upP_len l c n
    rw [upP]
    split
    · rw [List.length_append, List.length_singleton]; omega
    · omega

theorem mem_upP {l : List R6} {c x : Int} : ∀ {n : Nat}, x ∈ upP l c n ↔ 0 ≤ x ∧ x < n ∧ fre l (x - 1) (x + c) = true
  | 0 => by
    simp [upP]
    omega
  | n + 1 => by
    have ih := mem_upP (l := l) (c := c) (x := x) (n := n)
    by_cases h : fre l ((n : Int) - 1) ((n : Int) + c) = true
    · rw [upP_yes h, List.mem_append, ih, List.mem_singleton]
      constructor
      · rintro (⟨h1, h2, h3⟩ | rfl)
        · exact ⟨h1, by omega, h3⟩
        · exact ⟨by omega, by omega, h⟩
      · rintro ⟨h1, h2, h3⟩
        by_cases he : x = n
        · exact Or.inr he
        · exact Or.inl ⟨h1, by omega, h3⟩
    · rw [upP_no (by simpa using h), ih]
      constructor
      · rintro ⟨h1, h2, h3⟩
        exact ⟨h1, by omega, h3⟩
      · rintro ⟨h1, h2, h3⟩
        refine ⟨h1, ?_, h3⟩
        by_cases he : x = n
        · subst he; exact absurd h3 h
        · omega

/-- What All answers. -/
def allP (l : List R6) (c : Int) : List Int := if rightR l && decide (1 ≤ c) then upP l c (65 - c).toNat else []

theorem allP_len (l : List R6) (c : Int) : (allP l c).length ≤ 64 := by
  unfold allP
  split
  · rename_i h
    have := upP_len l c (65 - c).toNat
    simp at h
    omega
  · simp

theorem allP_pos {l : List R6} {c : Int} (h : rightR l = true) (hc : 1 ≤ c) : allP l c = upP l c (65 - c).toNat := by
  unfold allP
  rw [if_pos (by rw [h]; simpa using hc)]

theorem allP_wrong {l : List R6} {c : Int} (h : rightR l = false) : allP l c = [] := by
  unfold allP
  rw [h]
  rfl

theorem allP_few {l : List R6} {c : Int} (h : c < 1) : allP l c = [] := by
  unfold allP
  rw [if_neg (by simp; omega)]

theorem mem_allP {l : List R6} {c x : Int} : x ∈ allP l c ↔ rightR l = true ∧ 1 ≤ c ∧ 0 ≤ x ∧ x + c ≤ 64 ∧ fre l (x - 1) (x + c) = true := by
  by_cases h : rightR l = true
  · by_cases hc : 1 ≤ c
    · rw [allP_pos h hc, mem_upP]
      constructor
      · rintro ⟨h1, h2, h3⟩; exact ⟨h, hc, h1, by omega, h3⟩
      · rintro ⟨-, -, h1, h2, h3⟩; exact ⟨h1, by omega, h3⟩
    · rw [allP_few (by omega)]
      simp [hc]
  · rw [allP_wrong (by simpa using h)]
    simp [h]

/-- What Choose answers: the error, and which. -/
def choE (l : List R6) (c : Int) : Int := if rightR l then if 1 ≤ c ∧ c ≤ 64 then if (allP l c).length = 0 then 4 else 0 else 2 else 1
def choV (l : List R6) (c d : Int) : Int := if choE l c = 0 then (allP l c).getD (d % ((allP l c).length : Int)).toNat 0 else 0

theorem choE_iff {l : List R6} {c : Int} : choE l c = 0 ↔ rightR l = true ∧ 1 ≤ c ∧ c ≤ 64 ∧ 0 < (allP l c).length := by
  unfold choE
  by_cases h : rightR l = true
  · by_cases hc : 1 ≤ c ∧ c ≤ 64
    · by_cases hl : (allP l c).length = 0
      · rw [if_pos h, if_pos hc, if_pos hl]
        exact ⟨fun h => by omega, fun h => by omega⟩
      · rw [if_pos h, if_pos hc, if_neg hl]; simp [h, hc]; omega
    · rw [if_pos h, if_neg hc]; simp; omega
  · rw [if_neg h]; simp [h]

theorem choV_at {l : List R6} {c d : Int} (h : choE l c = 0) : choV l c d = (allP l c).getD (d % ((allP l c).length : Int)).toNat 0 := by unfold choV; rw [if_pos h]
theorem choV_no {l : List R6} {c d : Int} (h : choE l c ≠ 0) : choV l c d = 0 := by unfold choV; rw [if_neg h]

theorem choV_mem {l : List R6} {c d : Int} (h : choE l c = 0) : choV l c d ∈ allP l c := by
  have h4 := (choE_iff.1 h).2.2.2
  have h5 := Int.emod_nonneg d (show ((allP l c).length : Int) ≠ 0 by omega)
  have h6 := Int.emod_lt_of_pos d (show (0 : Int) < ((allP l c).length : Int) by omega)
  have h7 : (d % ((allP l c).length : Int)).toNat < (allP l c).length := by omega
  rw [choV_at h, List.getD_eq_getElem?_getD, List.getElem?_eq_getElem h7]
  exact List.getElem_mem _

theorem choV_each {l : List R6} {c : Int} (h : choE l c = 0) {k : Nat} (hk : k < (allP l c).length) : choV l c (k : Int) = (allP l c).getD k 0 := by
  rw [choV_at h, Int.emod_eq_of_lt (by omega) (by omega), Int.toNat_natCast]

/-- x put among those of l, where it begins. -/
def insR (x : R6) : List R6 → List R6
  | [] => [x]
  | y :: r => if y.1 < x.1 then y :: insR x r else x :: y :: r

theorem insR_len (x : R6) : ∀ l, (insR x l).length = l.length + 1
  | [] => rfl
  | y :: r => by
    rw [insR]
    split
    · rw [List.length_cons, insR_len x r, List.length_cons]
    · rfl

theorem insR_good {x : R6} (hx : x.1 < x.2.1) (hx2 : x.2.1 ≤ 64) : ∀ {l lo la}, Good lo la l → lo ≤ x.1 → (x.1 = lo → la = none) → (∀ y ∈ l, y.2.1 < x.1 ∨ x.2.1 < y.1) → Good lo la (insR x l)
  | [], lo, la, _, h1, h2, _ => ⟨h1, hx, hx2, (fun he h => by rw [h2 he] at h; cases h), trivial⟩
  | y :: r, lo, la, h, h1, h2, h3 => by
    obtain ⟨g1, g2, g3, g4, g5⟩ := h
    have hy := h3 y (List.mem_cons_self ..)
    rw [insR]
    by_cases hc : y.1 < x.1
    · rw [if_pos hc]
      exact ⟨g1, g2, g3, g4, insR_good hx hx2 g5 (by omega) (fun he => by omega) (fun z hz => h3 z (List.mem_cons_of_mem _ hz))⟩
    · rw [if_neg hc]
      exact ⟨h1, hx, hx2, (fun he h => by rw [h2 he] at h; cases h), by omega, g2, g3, fun he => by omega, g5⟩

theorem insR_at {x : R6} (p : Int) : ∀ {l : List R6}, (∀ y ∈ l, y.2.1 < x.1 ∨ x.2.1 < y.1) → atR (insR x l) p = if iv x.1 x.2.1 p then some x.2.2 else atR l p
  | [], _ => rfl
  | y :: r, h => by
    have hy := h y (List.mem_cons_self ..)
    rw [insR]
    by_cases hc : y.1 < x.1
    · rw [if_pos hc, atR, atR, insR_at p (fun z hz => h z (List.mem_cons_of_mem _ hz))]
      by_cases h1 : iv y.1 y.2.1 p = true
      · have h2 : iv x.1 x.2.1 p = false := by
          rw [Bool.eq_false_iff, ne_eq, iv_iff]
          rw [iv_iff] at h1
          omega
        rw [if_pos h1, h2, if_pos h1]
        rfl
      · rw [if_neg h1, if_neg h1]
    · rw [if_neg hc, atR]

/-- PlaceGuard's sense: what is chosen can be added, and is no neighbour. -/
theorem guard_said {l : List R6} {c d : Int} (h : choE l c = 0) (a : A4) : addE l (choV l c d, choV l c d + c, a) = 0 ∧ (addL l (choV l c d, choV l c d + c, a)).length = l.length + 1 ∧ atR l (choV l c d - 1) = none ∧ atR l (choV l c d + c) = none ∧ 0 ≤ choV l c d ∧ choV l c d + c ≤ 64 ∧ 1 ≤ c := by
  obtain ⟨m1, m2, m3, m4, m5⟩ := mem_allP.1 (choV_mem (d := d) h)
  have hg := good_of_right m1
  have hA := hg.asc (by decide)
  generalize choV l c d = p at *
  have hf := (fre_iff hA (show p - 1 ≤ p + c by omega)).1 m5
  have hm := fre_mem.1 m5
  have hs : isSp p (p + c) = true := isSp_iff.2 ⟨m3, by omega, by omega⟩
  have hE : addE l (p, p + c, a) = 0 := by
    rw [addE_iff]
    refine ⟨wrE_iff.2 ⟨m1, hs⟩, ?_⟩
    have := (cnt_zero hg hs).2 (fun q hq => by rw [iv_iff] at hq; exact hf q (by omega) (by omega))
    simp only
    omega
  obtain ⟨-, -, -, a4, a5⟩ := add_pages hE
  have hd : ∀ y ∈ l, y.2.1 < p ∨ p + c < y.1 := fun y hy => by have := hm y hy; omega
  have hi : addL l (p, p + c, a) = insR (p, p + c, a) l := by
    refine uniq a4 (insR_good (by simp only; omega) (by simp only; omega) hg (by simpa using m3) (fun _ => rfl) hd) (fun q => ?_)
    rw [a5, insR_at q hd]
  exact ⟨hE, by rw [hi, insR_len], hf _ (by omega) (by omega), hf _ (by omega) (by omega), m3, m4, m2⟩

/-- PlaceLess' sense. -/
theorem less_said {l : List R6} {c p : Int} (h : p ∈ allP l c) (hc : 2 ≤ c) : p ∈ allP l (c - 1) := by
  obtain ⟨m1, m2, m3, m4, m5⟩ := mem_allP.1 h
  refine mem_allP.2 ⟨m1, by omega, m3, by omega, ?_⟩
  rw [fre_mem] at m5 ⊢
  intro x hx
  have := m5 x hx
  omega

theorem cut_said {l : List R6} {c p f t : Int} (h : p ∈ allP l c) (hw : wrE l f t = 0) : p ∈ allP (cutL l f t) c := by
  obtain ⟨m1, m2, m3, m4, m5⟩ := mem_allP.1 h
  obtain ⟨c1, c2, c3, c4⟩ := cut_pages hw
  refine mem_allP.2 ⟨right_of_good c3, m2, m3, m4, ?_⟩
  rw [fre_iff (c3.asc (by decide)) (by omega)]
  have hf := (fre_iff (c1.asc (by decide)) (by omega)).1 m5
  intro q h1 h2
  rw [c4, hf q h1 h2]
  split <;> rfl

/-- IAll's sense: page by page. -/
theorem room_said {l : List R6} (hg : Good 0 none l) {p c : Int} (hc : 0 ≤ c) : fre l (p - 1) (p + c) = true ↔ ∀ q, p - 1 ≤ q → q ≤ p + c → q < 0 ∨ 63 < q ∨ atR l q = none := by
  have hA := hg.asc (by decide)
  rw [fre_iff hA (by omega)]
  constructor
  · intro h q h1 h2
    exact Or.inr (Or.inr (h q h1 h2))
  · intro h q h1 h2
    rcases h q h1 h2 with h3 | h3 | h3
    · exact at_lo hA h3
    · exact at_hi hA (by omega)
    · exact h3

end Go.Proofs.Ytbiipnojhjhejaa

/- A process's four keys, as numbers and truths: which are taken, one that becomes another one, the first one that is free; no program is named. -/
namespace Go.Proofs.Ytbiipnojhjhejaa
set_option maxRecDepth 100000
set_option linter.unusedSimpArgs false
set_option linter.unusedVariables false

/-- Four keys: taken, and what it denies, of each. -/
abbrev K8 := Bool × Int × Bool × Int × Bool × Int × Bool × Int

/-- None is taken, nothing is denied. -/
def no8 : K8 := (false, 0, false, 0, false, 0, false, 0)

/-- Whether k is a key, and is taken. -/
def tk (l : K8) (k : Int) : Bool := if k = 0 then l.1 else if k = 1 then l.2.2.1 else if k = 2 then l.2.2.2.2.1 else if k = 3 then l.2.2.2.2.2.2.1 else false

/-- What key k denies. -/
def dy (l : K8) (k : Int) : Int := if k = 0 then l.2.1 else if k = 1 then l.2.2.2.1 else if k = 2 then l.2.2.2.2.2.1 else l.2.2.2.2.2.2.2

/-- Key k becomes another one. -/
def put (l : K8) (k : Int) (t : Bool) (d : Int) : K8 :=
  if k = 0 then (t, d, l.2.2) else if k = 1 then (l.1, l.2.1, t, d, l.2.2.2.2) else if k = 2 then (l.1, l.2.1, l.2.2.1, l.2.2.2.1, t, d, l.2.2.2.2.2.2) else if k = 3 then (l.1, l.2.1, l.2.2.1, l.2.2.2.1, l.2.2.2.2.1, l.2.2.2.2.2.1, t, d) else l

/-- The first one that is not taken (4: there is none). -/
def fst4 (l : K8) : Int := if l.1 = false then 0 else if l.2.2.1 = false then 1 else if l.2.2.2.2.1 = false then 2 else if l.2.2.2.2.2.2.1 = false then 3 else 4

/-- What New answers. -/
def nwL (l : K8) : K8 := if fst4 l = 4 then no8 else put l (fst4 l) true 0
def nwN (l : K8) : Int := if fst4 l = 4 then 0 else fst4 l
def nwE (l : K8) : Int := if fst4 l = 4 then 4 else 0

/-- What Free answers. -/
def frL (l : K8) (k : Int) : K8 := if k = 0 ∨ tk l k = false then no8 else put l k false 0
def frE (l : K8) (k : Int) : Int := if k = 0 ∨ tk l k = false then 3 else 0

/-- What Set answers. -/
def stL (l : K8) (k d : Int) : K8 := if tk l k = false ∨ d < 0 ∨ 3 < d then no8 else put l k true d
def stE (l : K8) (k d : Int) : Int := if tk l k = false then 3 else if d < 0 ∨ 3 < d then 2 else 0

theorem put_0 (l : K8) (t : Bool) (d : Int) : put l 0 t d = (t, d, l.2.2) := by simp [put]
theorem put_1 (l : K8) (t : Bool) (d : Int) : put l 1 t d = (l.1, l.2.1, t, d, l.2.2.2.2) := by simp [put]
theorem put_2 (l : K8) (t : Bool) (d : Int) : put l 2 t d = (l.1, l.2.1, l.2.2.1, l.2.2.2.1, t, d, l.2.2.2.2.2.2) := by simp [put]
theorem put_3 (l : K8) (t : Bool) (d : Int) : put l 3 t d = (l.1, l.2.1, l.2.2.1, l.2.2.2.1, l.2.2.2.2.1, l.2.2.2.2.2.1, t, d) := by simp [put]

theorem tk_key {l : K8} {k : Int} (h : tk l k = true) : k = 0 ∨ k = 1 ∨ k = 2 ∨ k = 3 := by
  unfold tk at h
  split at h
  · omega
  split at h
  · omega
  split at h
  · omega
  split at h
  · omega
  · cases h

theorem tk_out {l : K8} {k : Int} (h : k < 0 ∨ 3 < k) : tk l k = false := by
  unfold tk
  rw [if_neg (by omega), if_neg (by omega), if_neg (by omega), if_neg (by omega)]

theorem stE_zero {l : K8} {k d : Int} : stE l k d = 0 ↔ tk l k = true ∧ ¬(d < 0 ∨ 3 < d) := by
  unfold stE
  cases tk l k
  · simp
  · by_cases h : d < 0 ∨ 3 < d <;> simp [h]

theorem stL_ok {l : K8} {k d : Int} (h : stE l k d = 0) : stL l k d = put l k true d := by
  obtain ⟨h1, h2⟩ := stE_zero.1 h
  unfold stL
  rw [if_neg (by simp [h1]; omega)]

theorem stL_no {l : K8} {k d : Int} (h : stE l k d ≠ 0) : stL l k d = no8 := by
  unfold stL
  rw [if_pos]
  by_cases h1 : tk l k = true
  · exact Or.inr (Decidable.byContradiction fun h2 => h (stE_zero.2 ⟨h1, h2⟩))
  · exact Or.inl (by simpa using h1)

theorem tk_put {l : K8} {k j : Int} {d : Int} (h : tk l k = true) : tk (put l k true d) j = tk l j := by
  obtain ⟨t0, d0, t1, d1, t2, d2, t3, d3⟩ := l
  rcases tk_key h with rfl | rfl | rfl | rfl <;> (simp [tk] at h; subst h; simp [tk, put])

theorem dy_put {l : K8} {k : Int} {t : Bool} {d : Int} (h : tk l k = true) : dy (put l k t d) k = d := by
  rcases tk_key h with rfl | rfl | rfl | rfl <;> simp [dy, put]

theorem put_other {l : K8} {a b : Int} {s t : Bool} {c d : Int} (ha : tk l a = true) (hb : tk l b = true) (h : a ≠ b) : put (put l a s c) b t d = put (put l b t d) a s c := by
  rcases tk_key ha with rfl | rfl | rfl | rfl <;> rcases tk_key hb with rfl | rfl | rfl | rfl <;> simp [put] at h ⊢

/-- Keys do not know of each other. -/
theorem keys_apart {l : K8} {a b x y : Int} (h1 : stE l a x = 0) (h2 : stE (stL l a x) b y = 0) :
    stE l b y = 0 ∧ stE (stL l b y) a x = 0 ∧ tk l b = true ∧ dy (stL (stL l a x) b y) b = y ∧ (a ≠ b → stL (stL l a x) b y = stL (stL l b y) a x) := by
  obtain ⟨ha, hx⟩ := stE_zero.1 h1
  obtain ⟨hb', hy⟩ := stE_zero.1 h2
  have hb'' := hb'
  rw [stL_ok h1, tk_put ha] at hb'
  have h3 : stE l b y = 0 := stE_zero.2 ⟨hb', hy⟩
  have h4 : stE (stL l b y) a x = 0 := stE_zero.2 ⟨by rw [stL_ok h3, tk_put hb']; exact ha, hx⟩
  refine ⟨h3, h4, hb', ?_, fun hne => ?_⟩
  · rw [stL_ok h2]
    exact dy_put hb''
  · rw [stL_ok h2, stL_ok h1, stL_ok h4, stL_ok h3]
    exact put_other ha hb' hne

theorem fst4_cases (l : K8) : (fst4 l = 4 ∧ l.1 = true ∧ l.2.2.1 = true ∧ l.2.2.2.2.1 = true ∧ l.2.2.2.2.2.2.1 = true) ∨ ((fst4 l = 0 ∨ fst4 l = 1 ∨ fst4 l = 2 ∨ fst4 l = 3) ∧ tk l (fst4 l) = false) := by
  obtain ⟨t0, d0, t1, d1, t2, d2, t3, d3⟩ := l
  cases t0 <;> cases t1 <;> cases t2 <;> cases t3 <;> simp [fst4, tk]

end Go.Proofs.Ytbiipnojhjhejaa

/- Plain facts on lists of bytes: a number's bytes laid into a list and read out of it; no program is named. -/
namespace Go.Proofs.Ytbiipnojhjhejaa
set_option maxRecDepth 100000
open Go.RowKit

theorem i64_or_nat (a b : Nat) (ha : a < 9223372036854775808) (hb : b < 9223372036854775808) : bits .or .i64 (a : Int) (b : Int) = ((a ||| b : Nat) : Int) := by
  have hx : a ||| b < 2 ^ 63 := Nat.or_lt_two_pow (by omega) (by omega)
  show IntKind.i64.wrap ((BitVec.ofInt 64 (a : Int) ||| BitVec.ofInt 64 (b : Int)).toNat : Int) = _
  rw [BitVec.toNat_or, ofInt_u64 a (by omega), ofInt_u64 b (by omega), IntKind.wrap_i64]
  omega

/-- The number that the k bytes from place p on are, the least first. -/
def getN (zs : List Int) (p : Nat) : Nat → Int
  | 0 => 0
  | k + 1 => getN zs p k + zs.getD (p + k) 0 * 256 ^ k

def Bytes (zs : List Int) : Prop := ∀ i, 0 ≤ zs.getD i 0 ∧ zs.getD i 0 ≤ 255

theorem getN_bd (zs : List Int) (p : Nat) (hz : Bytes zs) : ∀ k, 0 ≤ getN zs p k ∧ getN zs p k < 256 ^ k
  | 0 => by simp [getN]
  | k + 1 => by
    have ih := getN_bd zs p hz k
    have hb := hz (p + k)
    have hp : (0 : Int) < 256 ^ k := Int.pow_pos (by decide)
    have h1 : 0 ≤ zs.getD (p + k) 0 * 256 ^ k := Int.mul_nonneg hb.1 (by omega)
    have h2 : zs.getD (p + k) 0 * 256 ^ k ≤ 255 * 256 ^ k := Int.mul_le_mul_of_nonneg_right hb.2 (by omega)
    have h3 : (256 : Int) ^ (k + 1) = 256 ^ k * 256 := Int.pow_succ ..
    simp only [getN]
    omega

theorem or_gen (X Z m j : Nat) (hm : m = 2 ^ j) (hX : X < m) (h : X < 9223372036854775808) (hY : Z * m < 9223372036854775808) :
    bits .or .i64 (X : Int) ((Z * m : Nat) : Int) = ((X + Z * m : Nat) : Int) := by
  rw [i64_or_nat X (Z * m) h hY, Nat.or_comm, nat_join j (Z * m) X (by rw [← hm]; exact Nat.mul_mod_left Z m) (by omega), Nat.add_comm]

theorem or_case (x z m : Int) (M j : Nat) (hm : m = (M : Int)) (hM : M = 2 ^ j) (hs : M ≤ 16777216) (h0 : 0 ≤ x) (h1 : x < m) (h2 : 0 ≤ z) (h3 : z ≤ 255) :
    bits .or .i64 x (wrap64 (wrap64 z * m)) = x + z * m := by
  have e1 : wrap64 z = z := by unfold wrap64; omega
  obtain ⟨X, rfl⟩ := Int.eq_ofNat_of_zero_le h0
  obtain ⟨Z, rfl⟩ := Int.eq_ofNat_of_zero_le h2
  have hb : Z * M ≤ 255 * 16777216 := Nat.mul_le_mul (by omega) hs
  have e2 : wrap64 ((Z : Int) * (M : Int)) = ((Z * M : Nat) : Int) := by
    rw [← Int.natCast_mul]
    generalize Z * M = q at *
    unfold wrap64
    omega
  rw [e1, hm, e2, or_gen X Z M j hM (by omega) (by omega) (by omega)]
  simp

theorem or_step (x z : Int) (k : Nat) (hk : k ≤ 3) (h0 : 0 ≤ x) (h1 : x < 256 ^ k) (h2 : 0 ≤ z) (h3 : z ≤ 255) :
    bits .or .i64 x (wrap64 (wrap64 z * 2 ^ (8 * k))) = x + z * 256 ^ k := by
  match k, hk with
  | 0, _ => exact or_case x z 1 1 0 rfl rfl (by omega) h0 h1 h2 h3
  | 1, _ => exact or_case x z 256 256 8 rfl rfl (by omega) h0 h1 h2 h3
  | 2, _ => exact or_case x z 65536 65536 16 rfl rfl (by omega) h0 h1 h2 h3
  | 3, _ => exact or_case x z 16777216 16777216 24 rfl rfl (by omega) h0 h1 h2 h3

/-- Byte k of the number v (the least is byte 0). -/
def byteK (v : Int) (k : Nat) : Int := v / 256 ^ k % 256

theorem byteK_bd (v : Int) (k : Nat) : 0 ≤ byteK v k ∧ byteK v k ≤ 255 := by unfold byteK; omega

def putK (zs : List Int) (p : Nat) (v : Int) : Nat → List Int
  | 0 => zs
  | k + 1 => (putK zs p v k).set (p + k) (byteK v k)

theorem length_putK (zs : List Int) (p : Nat) (v : Int) : ∀ k, (putK zs p v k).length = zs.length
  | 0 => rfl
  | k + 1 => by simp [putK, length_putK zs p v k]

theorem getD_set (l : List Int) (i j : Nat) (x : Int) : (l.set i x).getD j 0 = if i = j ∧ i < l.length then x else l.getD j 0 := by
  simp only [List.getD_eq_getElem?_getD, List.getElem?_set]
  by_cases h : i = j
  · subst h
    by_cases hl : i < l.length
    · simp [hl]
    · simp [hl]
  · simp [h]

theorem putK_getD (zs : List Int) (p : Nat) (v : Int) (i : Nat) : ∀ k, (putK zs p v k).getD i 0 = if p ≤ i ∧ i < p + k ∧ i < zs.length then byteK v (i - p) else zs.getD i 0
  | 0 => by rw [if_neg (by omega)]; rfl
  | k + 1 => by
    simp only [putK]
    rw [getD_set, putK_getD zs p v i k, length_putK]
    by_cases h : p + k = i ∧ p + k < zs.length
    · rw [if_pos h, if_pos (by omega)]
      congr 1; omega
    · rw [if_neg h]
      by_cases h2 : p ≤ i ∧ i < p + k ∧ i < zs.length
      · rw [if_pos h2, if_pos (by omega)]
      · rw [if_neg h2, if_neg (by omega)]

theorem putK_bytes (zs : List Int) (hz : Bytes zs) (p : Nat) (v : Int) (k : Nat) : Bytes (putK zs p v k) := by
  intro i
  rw [putK_getD]
  split
  · exact byteK_bd _ _
  · exact hz i

theorem getN_congr (zs ys : List Int) (p : Nat) : ∀ k, (∀ i, i < k → zs.getD (p + i) 0 = ys.getD (p + i) 0) → getN zs p k = getN ys p k
  | 0, _ => rfl
  | k + 1, h => by simp only [getN]; rw [getN_congr zs ys p k (fun i hi => h i (by omega)), h k (by omega)]

theorem mod_step (v : Int) (k : Nat) : v % 256 ^ k + byteK v k * 256 ^ k = v % 256 ^ (k + 1) := by
  have hp : (0 : Int) < 256 ^ k := Int.pow_pos (by decide)
  unfold byteK
  have h1 := Int.emod_add_mul_ediv v (256 ^ k)
  have h2 := Int.emod_add_mul_ediv (v / 256 ^ k) 256
  have h3 : v / 256 ^ (k + 1) = v / 256 ^ k / 256 := by rw [Int.pow_succ, Int.ediv_ediv_of_nonneg (by omega)]
  have h4 := Int.emod_add_mul_ediv v (256 ^ (k + 1))
  rw [h3] at h4
  generalize v / 256 ^ k = q at *
  have h5 : (256 : Int) ^ (k + 1) * (q / 256) = 256 ^ k * (256 * (q / 256)) := by rw [Int.pow_succ, Int.mul_assoc]
  have h6 : 256 ^ k * q = 256 ^ k * (q % 256) + 256 ^ k * (256 * (q / 256)) := by rw [← Int.mul_add, h2]
  have h7 : q % 256 * 256 ^ k = 256 ^ k * (q % 256) := Int.mul_comm ..
  omega

theorem getN_bytes (zs : List Int) (p : Nat) (v : Int) : ∀ k, (∀ i, i < k → zs.getD (p + i) 0 = byteK v i) → getN zs p k = v % 256 ^ k
  | 0, _ => by simp [getN, Int.emod_one]
  | k + 1, h => by
    simp only [getN]
    rw [getN_bytes zs p v k (fun i hi => h i (by omega)), h k (by omega), mod_step]

theorem getN_putK (zs : List Int) (p : Nat) (v : Int) (n : Nat) (h : p + n ≤ zs.length) : getN (putK zs p v n) p n = v % 256 ^ n := by
  refine getN_bytes _ _ _ _ fun i hi => ?_
  rw [putK_getD, if_pos (by omega)]
  congr 1; omega

theorem getN_putK_apart (zs : List Int) (p : Nat) (v : Int) (n q m : Nat) (h : q + m ≤ p ∨ p + n ≤ q) : getN (putK zs p v n) q m = getN zs q m := by
  refine getN_congr _ _ _ _ fun i hi => ?_
  rw [putK_getD, if_neg (by omega)]

theorem ext_getD (l r : List Int) (h : l.length = r.length) (g : ∀ i, l.getD i 0 = r.getD i 0) : l = r := by
  apply List.ext_getElem h
  intro i h1 h2
  have := g i
  simpa [List.getD_eq_getElem?_getD, h1, h2] using this

theorem putK_over (zs : List Int) (p : Nat) (v u : Int) (n : Nat) : putK (putK zs p v n) p u n = putK zs p u n := by
  refine ext_getD _ _ (by simp [length_putK]) fun i => ?_
  simp only [putK_getD, length_putK]
  by_cases h : p ≤ i ∧ i < p + n ∧ i < zs.length
  · simp only [if_pos h]
  · simp only [if_neg h]

theorem putK_comm (zs : List Int) (p : Nat) (v : Int) (n q : Nat) (u : Int) (m : Nat) (h : q + m ≤ p ∨ p + n ≤ q) : putK (putK zs p v n) q u m = putK (putK zs q u m) p v n := by
  refine ext_getD _ _ (by simp [length_putK]) fun i => ?_
  simp only [putK_getD, length_putK]
  by_cases h1 : p ≤ i ∧ i < p + n ∧ i < zs.length
  · simp only [if_pos h1, if_neg (show ¬ (q ≤ i ∧ i < q + m ∧ i < zs.length) by omega)]
  · simp only [if_neg h1]

theorem getN_cons (zs : List Int) (p : Nat) : ∀ k, getN zs p (k + 1) = zs.getD p 0 + 256 * getN zs (p + 1) k
  | 0 => by simp [getN]
  | k + 1 => by
    have ih := getN_cons zs p k
    rw [getN, ih]
    simp only [getN]
    rw [show p + 1 + k = p + (k + 1) from by omega, Int.pow_succ, Int.mul_add, ← Int.mul_assoc, ← Int.mul_assoc]
    have : zs.getD (p + (k + 1)) 0 * 256 ^ k * 256 = 256 * zs.getD (p + (k + 1)) 0 * 256 ^ k := by rw [Int.mul_comm, ← Int.mul_assoc]
    omega

theorem getN_small (zs : List Int) (p k : Nat) (hz : Bytes zs) (hk : k ≤ 3) : 0 ≤ getN zs p k ∧ getN zs p k ≤ 16777215 := by
  have h := getN_bd zs p hz k
  have hm : (256 : Int) ^ k ≤ 16777216 := by
    match k, hk with
    | 0, _ => decide
    | 1, _ => decide
    | 2, _ => decide
    | 3, _ => decide
  omega

/-- Byte j of the number's 64 bits, counted without a sign. -/
theorem byte_u64 (v : Int) (j : Nat) (hj : j ≤ 3) : v % 18446744073709551616 / 256 ^ j % 256 = byteK v j := by
  unfold byteK
  match j, hj with
  | 0, _ => simp only [Int.pow_zero]; omega
  | 1, _ => simp only [show (256 : Int) ^ 1 = 256 from rfl]; omega
  | 2, _ => simp only [show (256 : Int) ^ 2 = 65536 from rfl]; omega
  | 3, _ => simp only [show (256 : Int) ^ 3 = 16777216 from rfl]; omega

theorem putK_take (zs : List Int) (p : Nat) (v : Int) (n k : Nat) (hk : k < zs.length) :
    (putK zs p v n).take (k + 1) = (putK zs p v n).take k ++ [if p ≤ k ∧ k < p + n then byteK v (k - p) else zs.getD k 0] := by
  have hl : k < (putK zs p v n).length := by rw [length_putK]; exact hk
  rw [List.take_succ_eq_append_getElem hl]
  congr 2
  have := putK_getD zs p v k n
  rw [List.getD_eq_getElem?_getD, List.getElem?_eq_getElem hl] at this
  simp only [Option.getD_some] at this
  rw [this]
  by_cases h : p ≤ k ∧ k < p + n
  · rw [if_pos ⟨h.1, h.2, hk⟩, if_pos h]
  · rw [if_neg (by omega), if_neg h]

end Go.Proofs.Ytbiipnojhjhejaa

/- Where there is room: the pages from which on so many have room, with a page between; what is chosen of them; no program is named. -/
import Derived.Test.YtgkniljbemkkhafRegMath
namespace Go.Proofs.Ytgkniljbemkkhaf
set_option linter.unusedSimpArgs false
set_option linter.unusedVariables false

/-- Whether x has one of pages f to t. -/
def meetR (f t : Int) (x : R6) : Bool := decide (x.1 ≤ t) && decide (f < x.2.1)
/-- Whether none of pages f to t is in l. -/
def fre (l : List R6) (f t : Int) : Bool := !l.any (meetR f t)

theorem at_none : ∀ {l : List R6} {q : Int}, atR l q = none ↔ ∀ x ∈ l, iv x.1 x.2.1 q = false
  | [], _ => by simp [atR]
  | x :: r, q => by
    rw [atR, List.forall_mem_cons, ← at_none]
    cases iv x.1 x.2.1 q <;> simp

theorem asc_mem : ∀ {l lo hi}, Asc lo hi l → ∀ x ∈ l, lo ≤ x.1 ∧ x.1 < x.2.1 ∧ x.2.1 ≤ hi
  | [], _, _, _, x, hx => by simp at hx
  | y :: r, lo, hi, h, x, hx => by
    obtain ⟨h1, h2, h3⟩ := h
    have := h3.le
    rcases List.mem_cons.1 hx with rfl | hx
    · exact ⟨h1, h2, this⟩
    · have := asc_mem h3 x hx
      omega

theorem fre_mem {l : List R6} {f t : Int} : fre l f t = true ↔ ∀ x ∈ l, x.2.1 ≤ f ∨ t < x.1 := by
  unfold fre meetR
  rw [Bool.not_eq_true', List.any_eq_false]
  constructor
  · intro h x hx
    have := h x hx
    simp at this
    omega
  · intro h x hx
    have := h x hx
    simp
    omega

theorem fre_iff {l : List R6} {lo hi f t : Int} (h : Asc lo hi l) (hft : f ≤ t) : fre l f t = true ↔ ∀ q, f ≤ q → q ≤ t → atR l q = none := by
  rw [fre_mem]
  constructor
  · intro hh q h1 h2
    rw [at_none]
    intro x hx
    have := hh x hx
    rw [Bool.eq_false_iff, ne_eq, iv_iff]
    omega
  · intro hh x hx
    have hm := asc_mem h x hx
    by_cases hc : x.2.1 ≤ f ∨ t < x.1
    · exact hc
    · exfalso
      have := at_none.1 (hh (max x.1 f) (by omega) (by omega)) x hx
      rw [Bool.eq_false_iff, ne_eq, iv_iff] at this
      omega

/-- Of pages 0 to n - 1 those from which on c pages have room. -/
def upP (l : List R6) (c : Int) : Nat → List Int
  | 0 => []
  | n + 1 => if fre l ((n : Int) - 1) ((n : Int) + c) then upP l c n ++ [(n : Int)] else upP l c n

theorem upP_yes {l : List R6} {c : Int} {n : Nat} (h : fre l ((n : Int) - 1) ((n : Int) + c) = true) : upP l c (n + 1) = upP l c n ++ [(n : Int)] := by rw [upP, if_pos h]
theorem upP_no {l : List R6} {c : Int} {n : Nat} (h : fre l ((n : Int) - 1) ((n : Int) + c) = false) : upP l c (n + 1) = upP l c n := by rw [upP, if_neg (by rw [h]; decide)]

theorem upP_len (l : List R6) (c : Int) : ∀ n, (upP l c n).length ≤ n
  | 0 => Nat.le_refl _
  | n + 1 => by
    have := upP_len l c n
    rw [upP]
    split
    · rw [List.length_append, List.length_singleton]; omega
    · omega

theorem mem_upP {l : List R6} {c x : Int} : ∀ {n : Nat}, x ∈ upP l c n ↔ 0 ≤ x ∧ x < n ∧ fre l (x - 1) (x + c) = true
  | 0 => by
    simp [upP]
    omega
  | n + 1 => by
    have ih := mem_upP (l := l) (c := c) (x := x) (n := n)
    by_cases h : fre l ((n : Int) - 1) ((n : Int) + c) = true
    · rw [upP_yes h, List.mem_append, ih, List.mem_singleton]
      constructor
      · rintro (⟨h1, h2, h3⟩ | rfl)
        · exact ⟨h1, by omega, h3⟩
        · exact ⟨by omega, by omega, h⟩
      · rintro ⟨h1, h2, h3⟩
        by_cases he : x = n
        · exact Or.inr he
        · exact Or.inl ⟨h1, by omega, h3⟩
    · rw [upP_no (by simpa using h), ih]
      constructor
      · rintro ⟨h1, h2, h3⟩
        exact ⟨h1, by omega, h3⟩
      · rintro ⟨h1, h2, h3⟩
        refine ⟨h1, ?_, h3⟩
        by_cases he : x = n
        · subst he; exact absurd h3 h
        · omega

/-- What All answers. -/
def allP (l : List R6) (c : Int) : List Int := if rightR l && decide (1 ≤ c) then upP l c (65 - c).toNat else []

theorem allP_len (l : List R6) (c : Int) : (allP l c).length ≤ 64 := by
  unfold allP
  split
  · rename_i h
    have := upP_len l c (65 - c).toNat
    simp at h
    omega
  · simp

theorem allP_pos {l : List R6} {c : Int} (h : rightR l = true) (hc : 1 ≤ c) : allP l c = upP l c (65 - c).toNat := by
  unfold allP
  rw [if_pos (by rw [h]; simpa using hc)]

theorem allP_wrong {l : List R6} {c : Int} (h : rightR l = false) : allP l c = [] := by
  unfold allP
  rw [h]
  rfl

theorem allP_few {l : List R6} {c : Int} (h : c < 1) : allP l c = [] := by
  unfold allP
  rw [if_neg (by simp; omega)]

theorem mem_allP {l : List R6} {c x : Int} : x ∈ allP l c ↔ rightR l = true ∧ 1 ≤ c ∧ 0 ≤ x ∧ x + c ≤ 64 ∧ fre l (x - 1) (x + c) = true := by
  by_cases h : rightR l = true
  · by_cases hc : 1 ≤ c
    · rw [allP_pos h hc, mem_upP]
      constructor
      · rintro ⟨h1, h2, h3⟩; exact ⟨h, hc, h1, by omega, h3⟩
      · rintro ⟨-, -, h1, h2, h3⟩; exact ⟨h1, by omega, h3⟩
    · rw [allP_few (by omega)]
      simp [hc]
  · rw [allP_wrong (by simpa using h)]
    simp [h]

/-- What Choose answers: the error, and which. -/
def choE (l : List R6) (c : Int) : Int := if rightR l then if 1 ≤ c ∧ c ≤ 64 then if (allP l c).length = 0 then 4 else 0 else 2 else 1
def choV (l : List R6) (c d : Int) : Int := if choE l c = 0 then (allP l c).getD (d % ((allP l c).length : Int)).toNat 0 else 0

theorem choE_iff {l : List R6} {c : Int} : choE l c = 0 ↔ rightR l = true ∧ 1 ≤ c ∧ c ≤ 64 ∧ 0 < (allP l c).length := by
  unfold choE
  by_cases h : rightR l = true
  · by_cases hc : 1 ≤ c ∧ c ≤ 64
    · by_cases hl : (allP l c).length = 0
      · rw [if_pos h, if_pos hc, if_pos hl]
        exact ⟨fun h => by omega, fun h => by omega⟩
      · rw [if_pos h, if_pos hc, if_neg hl]; simp [h, hc]; omega
    · rw [if_pos h, if_neg hc]; simp; omega
  · rw [if_neg h]; simp [h]

theorem choV_at {l : List R6} {c d : Int} (h : choE l c = 0) : choV l c d = (allP l c).getD (d % ((allP l c).length : Int)).toNat 0 := by unfold choV; rw [if_pos h]
theorem choV_no {l : List R6} {c d : Int} (h : choE l c ≠ 0) : choV l c d = 0 := by unfold choV; rw [if_neg h]

theorem choV_mem {l : List R6} {c d : Int} (h : choE l c = 0) : choV l c d ∈ allP l c := by
  have h4 := (choE_iff.1 h).2.2.2
  have h5 := Int.emod_nonneg d (show ((allP l c).length : Int) ≠ 0 by omega)
  have h6 := Int.emod_lt_of_pos d (show (0 : Int) < ((allP l c).length : Int) by omega)
  have h7 : (d % ((allP l c).length : Int)).toNat < (allP l c).length := by omega
  rw [choV_at h, List.getD_eq_getElem?_getD, List.getElem?_eq_getElem h7]
  exact List.getElem_mem _

theorem choV_each {l : List R6} {c : Int} (h : choE l c = 0) {k : Nat} (hk : k < (allP l c).length) : choV l c (k : Int) = (allP l c).getD k 0 := by
  rw [choV_at h, Int.emod_eq_of_lt (by omega) (by omega), Int.toNat_natCast]

/-- x put among those of l, where it begins. -/
def insR (x : R6) : List R6 → List R6
  | [] => [x]
  | y :: r => if y.1 < x.1 then y :: insR x r else x :: y :: r

theorem insR_len (x : R6) : ∀ l, (insR x l).length = l.length + 1
  | [] => rfl
  | y :: r => by
    rw [insR]
    split
    · rw [List.length_cons, insR_len x r, List.length_cons]
    · rfl

theorem insR_good {x : R6} (hx : x.1 < x.2.1) (hx2 : x.2.1 ≤ 64) : ∀ {l lo la}, Good lo la l → lo ≤ x.1 → (x.1 = lo → la = none) → (∀ y ∈ l, y.2.1 < x.1 ∨ x.2.1 < y.1) → Good lo la (insR x l)
  | [], lo, la, _, h1, h2, _ => ⟨h1, hx, hx2, (fun he h => by rw [h2 he] at h; cases h), trivial⟩
  | y :: r, lo, la, h, h1, h2, h3 => by
    obtain ⟨g1, g2, g3, g4, g5⟩ := h
    have hy := h3 y (List.mem_cons_self ..)
    rw [insR]
    by_cases hc : y.1 < x.1
    · rw [if_pos hc]
      exact ⟨g1, g2, g3, g4, insR_good hx hx2 g5 (by omega) (fun he => by omega) (fun z hz => h3 z (List.mem_cons_of_mem _ hz))⟩
    · rw [if_neg hc]
      exact ⟨h1, hx, hx2, (fun he h => by rw [h2 he] at h; cases h), by omega, g2, g3, fun he => by omega, g5⟩

theorem insR_at {x : R6} (p : Int) : ∀ {l : List R6}, (∀ y ∈ l, y.2.1 < x.1 ∨ x.2.1 < y.1) → atR (insR x l) p = if iv x.1 x.2.1 p then some x.2.2 else atR l p
  | [], _ => rfl
  | y :: r, h => by
    have hy := h y (List.mem_cons_self ..)
    rw [insR]
    by_cases hc : y.1 < x.1
    · rw [if_pos hc, atR, atR, insR_at p (fun z hz => h z (List.mem_cons_of_mem _ hz))]
      by_cases h1 : iv y.1 y.2.1 p = true
      · have h2 : iv x.1 x.2.1 p = false := by
          rw [Bool.eq_false_iff, ne_eq, iv_iff]
          rw [iv_iff] at h1
          omega
        rw [if_pos h1, h2, if_pos h1]
        rfl
      · rw [if_neg h1, if_neg h1]
    · rw [if_neg hc, atR]

/-- PlaceGuard's sense: what is chosen can be added, and is no neighbour. -/
theorem guard_said {l : List R6} {c d : Int} (h : choE l c = 0) (a : A4) : addE l (choV l c d, choV l c d + c, a) = 0 ∧ (addL l (choV l c d, choV l c d + c, a)).length = l.length + 1 ∧ atR l (choV l c d - 1) = none ∧ atR l (choV l c d + c) = none ∧ 0 ≤ choV l c d ∧ choV l c d + c ≤ 64 ∧ 1 ≤ c := by
  obtain ⟨m1, m2, m3, m4, m5⟩ := mem_allP.1 (choV_mem (d := d) h)
  have hg := good_of_right m1
  have hA := hg.asc (by decide)
  generalize choV l c d = p at *
  have hf := (fre_iff hA (show p - 1 ≤ p + c by omega)).1 m5
  have hm := fre_mem.1 m5
  have hs : isSp p (p + c) = true := isSp_iff.2 ⟨m3, by omega, by omega⟩
  have hE : addE l (p, p + c, a) = 0 := by
    rw [addE_iff]
    refine ⟨wrE_iff.2 ⟨m1, hs⟩, ?_⟩
    have := (cnt_zero hg hs).2 (fun q hq => by rw [iv_iff] at hq; exact hf q (by omega) (by omega))
    simp only
    omega
  obtain ⟨-, -, -, a4, a5⟩ := add_pages hE
  have hd : ∀ y ∈ l, y.2.1 < p ∨ p + c < y.1 := fun y hy => by have := hm y hy; omega
  have hi : addL l (p, p + c, a) = insR (p, p + c, a) l := by
    refine uniq a4 (insR_good (by simp only; omega) (by simp only; omega) hg (by simpa using m3) (fun _ => rfl) hd) (fun q => ?_)
    rw [a5, insR_at q hd]
  exact ⟨hE, by rw [hi, insR_len], hf _ (by omega) (by omega), hf _ (by omega) (by omega), m3, m4, m2⟩

/-- PlaceLess' sense. -/
theorem less_said {l : List R6} {c p : Int} (h : p ∈ allP l c) (hc : 2 ≤ c) : p ∈ allP l (c - 1) := by
  obtain ⟨m1, m2, m3, m4, m5⟩ := mem_allP.1 h
  refine mem_allP.2 ⟨m1, by omega, m3, by omega, ?_⟩
  rw [fre_mem] at m5 ⊢
  intro x hx
  have := m5 x hx
  omega

theorem cut_said {l : List R6} {c p f t : Int} (h : p ∈ allP l c) (hw : wrE l f t = 0) : p ∈ allP (cutL l f t) c := by
  obtain ⟨m1, m2, m3, m4, m5⟩ := mem_allP.1 h
  obtain ⟨c1, c2, c3, c4⟩ := cut_pages hw
  refine mem_allP.2 ⟨right_of_good c3, m2, m3, m4, ?_⟩
  rw [fre_iff (c3.asc (by decide)) (by omega)]
  have hf := (fre_iff (c1.asc (by decide)) (by omega)).1 m5
  intro q h1 h2
  rw [c4, hf q h1 h2]
  split <;> rfl

/-- IAll's sense: page by page. -/
theorem room_said {l : List R6} (hg : Good 0 none l) {p c : Int} (hc : 0 ≤ c) : fre l (p - 1) (p + c) = true ↔ ∀ q, p - 1 ≤ q → q ≤ p + c → q < 0 ∨ 63 < q ∨ atR l q = none := by
  have hA := hg.asc (by decide)
  rw [fre_iff hA (by omega)]
  constructor
  · intro h q h1 h2
    exact Or.inr (Or.inr (h q h1 h2))
  · intro h q h1 h2
    rcases h q h1 h2 with h3 | h3 | h3
    · exact at_lo hA h3
    · exact at_hi hA (by omega)
    · exact h3

end Go.Proofs.Ytgkniljbemkkhaf

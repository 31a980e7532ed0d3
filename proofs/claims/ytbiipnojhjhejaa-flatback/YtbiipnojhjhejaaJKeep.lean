/- Facts on shown pages and regions that the statements on flat.Run lean on. -/
import Derived.Test.YtbiipnojhjhejaaAlive14
namespace Go.Proofs.Ytbiipnojhjhejaa
set_option maxRecDepth 100000
open Go.RowKit
set_option linter.unusedSimpArgs false
set_option linter.unusedVariables false

theorem pagesL_cnt (p : Pr) : ∀ {l : List R6} {lo hi : Int}, Asc lo hi l → 0 ≤ lo → hi ≤ 64 → ((pagesL p l).length : Int) = cnt l 0 64
  | [], _, _, _, _, _ => rfl
  | x :: r, lo, hi, h, h0, h1 => by
    obtain ⟨a1, a2, a3⟩ := h
    have ih := pagesL_cnt p a3 (by omega) h1
    have hle := a3.le
    have e : pagesL p (x :: r) = pagesR p x (x.2.1 - x.1).toNat ++ pagesL p r := by simp [pagesL]
    rw [e, List.length_append, pagesR_len, cnt]
    have hb : clipB x 0 64 = true := by unfold clipB; rw [decide_eq_true_eq]; omega
    rw [if_pos hb]
    have e1 : (clipR x 0 64).2.1 = x.2.1 := by show min x.2.1 64 = _; omega
    have e2 : (clipR x 0 64).1 = x.1 := by show max x.1 0 = _; omega
    rw [e1, e2, ← ih]
    push_cast
    omega

theorem pages_cnt {p : Pr} (h : Good 0 none p.L) : ((pagesL p p.L).length : Int) = cnt p.L 0 64 := pagesL_cnt p (h.asc (by decide)) (Int.le_refl _) (Int.le_refl _)

theorem at_mem : ∀ {l : List R6} {lo hi : Int}, Asc lo hi l → ∀ x ∈ l, atR l x.1 = some x.2.2
  | y :: r, lo, hi, h, x, hx => by
    obtain ⟨a1, a2, a3⟩ := h
    have hmem : ∀ {l : List R6} {lo hi : Int}, Asc lo hi l → ∀ z ∈ l, lo ≤ z.1 := by
      intro l
      induction l with
      | nil => intro lo hi _ z hz; cases hz
      | cons u s ih =>
        intro lo hi hu z hz
        obtain ⟨b1, b2, b3⟩ := hu
        rcases List.mem_cons.1 hz with rfl | hz
        · exact b1
        · have := ih b3 z hz; omega
    rw [atR]
    rcases List.mem_cons.1 hx with rfl | hx
    · rw [if_pos (by rw [iv_iff]; omega)]
    · have := hmem a3 x hx
      rw [if_neg (by rw [iv_iff]; omega)]
      exact at_mem a3 x hx

theorem PInv.mem {p : Pr} (h : PInv p) {x : R6} (hx : x ∈ p.L) : wrg x.2.2.1 = 0 ∧ tk p.K x.2.2.2.1 = true :=
  h.just _ _ (at_mem (h.good.asc (by decide)) x hx)

end Go.Proofs.Ytbiipnojhjhejaa

/- An element of an array of processes, by value. -/
namespace Go.Proofs.Ytbiipnojhjhejaa
set_option maxRecDepth 100000
open Go.RowKit
set_option linter.unusedSimpArgs false
set_option linter.unusedVariables false

theorem extract_is {X : Array Value} {o m : Nat} {cs : List Value} (hl : cs.length = m) (hs : o + m ≤ X.size) (h : ∀ j, j < m → X[o + j]? = cs[j]?) : X.extract o (o + m) = cs.toArray := by
  apply Array.ext_getElem?
  intro i
  rw [Array.getElem?_extract]
  simp only [List.getElem?_toArray]
  by_cases hi : i < m
  · rw [if_pos (by omega), h i hi]
  · rw [if_neg (by omega), List.getElem?_eq_none (by omega)]

theorem index_procs (X : Array Value) (i : Nat) (cs : List Value) (hi : i < 4) (hX : X.size = 44) (hl : cs.length = 11) (hx : ∀ j, j < 11 → X[i * 11 + j]? = cs[j]?) (w : World) : (Instr.index 34 (.agg X) (.int .i64 (i : Int))).run Try.prog w = .ok (.agg cs.toArray) w := by
  have a3 := Try.isAgg33
  have z3 := Try.sizeOf33
  have hp' : (0 : Int) ≤ (i : Int) ∧ (i : Int) < 4 := ⟨by omega, by omega⟩
  have he := extract_is (X := X) (o := i * 11) hl (by omega) hx
  simp [Instr.index, run_underlying Try.underlying34, asIntOf, hp', z3, a3, part, go_sem]
  rw [if_pos hi, he]

/-- A process that is shown: its cells. -/
theorem ShownTo.cells {base : Nat} {w : World} {S : W4} {xs : List Value} (h : ShownTo base w S 4 xs) {i : Nat} (hi : i < 4) : ∃ a n c a' n' c', Seems base w (S i) (.slice a n c) (.slice a' n' c') ∧
    ∀ w1 : World, (Instr.index 34 (.agg xs.toArray) (.int .i64 (i : Int))).run Try.prog w1 = .ok (.agg (procC (S i) (.slice a n c) (.slice a' n' c')).toArray) w1 := by
  obtain ⟨a, n, c, a', n', c', h3, h4⟩ := h.2.2 i hi
  exact ⟨a, n, c, a', n', c', h3, fun w1 => index_procs _ i _ hi (by simpa using h.1) rfl (fun j hj => by rw [List.getElem?_toArray]; exact h4 j hj) w1⟩

theorem IsW.arr {base b : Nat} {w : World} {S : W4} {X : Array Value} (h : IsW base w b S) (hg : w.heap[b]? = some (.cells X 34 (0, 0))) {i : Nat} (hi : i < 4) : ∃ a n c a' n' c', Seems base w (S i) (.slice a n c) (.slice a' n' c') ∧
    ∀ w1 : World, (Instr.index 34 (.agg X) (.int .i64 (i : Int))).run Try.prog w1 = .ok (.agg (procC (S i) (.slice a n c) (.slice a' n' c')).toArray) w1 := by
  obtain ⟨xs, h1, h2⟩ := h
  unfold OwnRow at h1
  rw [hg] at h1
  simp only [Option.some.injEq, Obj.cells.injEq] at h1
  rw [h1.1]
  exact h2.cells hi

end Go.Proofs.Ytbiipnojhjhejaa

/- Slices of structs as lists: each element x stands as the m one-cell values enc x, one behind the other; slices that are read, and rows that the call itself has made; no program is named. -/
import Derived.Test.YtbiipnojhjhejaaKit
import Derived.Lib.AppendZeros
import Derived.Lib.SliceRun
import Derived.Deep.RegionHeld3
import Derived.Deep.RegionLaw
import Derived.Test.YtbiipnojhjhejaaRows
import Derived.WalkKit
import Derived.WalkLawsBesides
import Derived.WalkSpells
import Derived.Below
import Derived.OpenShut
import Derived.Test.YtbiipnojhjhejaaCalm
import Derived.Test.YtbiipnojhjhejaaJMath
namespace Go.Proofs.Ytbiipnojhjhejaa
set_option maxRecDepth 100000
open Go.RowKit
set_option linter.unusedSimpArgs false
set_option linter.unusedVariables false

/-- How an element stands in memory: m cells, enc's. -/
structure Shape (α : Type) (m : Nat) (enc : α → List Value) : Prop where
  len : ∀ x, (enc x).length = m
  one : ∀ x, ∀ v ∈ enc x, v.oneCell' = true
  pos : 0 < m

/-- The elements' cells, one behind the other. -/
def flatL {α : Type} (enc : α → List Value) (l : List α) : List Value := l.flatMap enc

section
variable {α : Type} {m : Nat} {enc : α → List Value}

theorem flatL_nil : flatL enc [] = [] := rfl
theorem flatL_cons (x : α) (l : List α) : flatL enc (x :: l) = enc x ++ flatL enc l := by simp [flatL]
theorem flatL_append (l r : List α) : flatL enc (l ++ r) = flatL enc l ++ flatL enc r := by simp [flatL]
theorem flatL_one (x : α) : flatL enc [x] = enc x := by simp [flatL]

theorem flatL_len (S : Shape α m enc) : ∀ l, (flatL enc l).length = l.length * m
  | [] => by simp [flatL]
  | x :: r => by rw [flatL_cons, List.length_append, S.len, flatL_len S r, List.length_cons, Nat.succ_mul]; omega

theorem flatL_take (S : Shape α m enc) : ∀ l k, (flatL enc l).take (k * m) = flatL enc (l.take k)
  | [], k => by simp [flatL]
  | x :: r, 0 => by simp [flatL]
  | x :: r, k + 1 => by
    rw [flatL_cons, List.take_succ_cons, flatL_cons, Nat.succ_mul, Nat.add_comm, ← S.len x, List.take_length_add_append, S.len x, flatL_take S r k]

theorem flatL_drop (S : Shape α m enc) : ∀ l k, (flatL enc l).drop (k * m) = flatL enc (l.drop k)
  | [], k => by simp [flatL]
  | x :: r, 0 => by simp [flatL]
  | x :: r, k + 1 => by
    rw [flatL_cons, List.drop_succ_cons, Nat.succ_mul, Nat.add_comm, ← S.len x, List.drop_length_add_append, S.len x, flatL_drop S r k]

theorem flatL_get (S : Shape α m enc) (l : List α) (d : α) (k t : Nat) (hk : k < l.length) (ht : t < m) : (flatL enc l)[k * m + t]? = (enc (l.getD k d))[t]? := by
  rw [← List.getElem?_drop, flatL_drop S, List.drop_eq_getElem_cons hk, flatL_cons, List.getElem?_append_left (by rw [S.len]; exact ht), List.getD_eq_getElem?_getD, List.getElem?_eq_getElem hk]
  rfl

theorem flatL_ones (S : Shape α m enc) (l : List α) : ∀ v ∈ flatL enc l, v.oneCell' = true := by
  intro v hv
  simp only [flatL, List.mem_flatMap] at hv
  obtain ⟨x, -, hx⟩ := hv
  exact S.one x v hx

/-- The value v is a slice of the elements l, at most B of them, in the world w. -/
def IsRecs (enc : α → List Value) (B : Nat) (w : World) (v : Value) (l : List α) : Prop :=
  ∃ a cap, v = .slice a l.length cap ∧ l.length ≤ cap ∧ l.length ≤ B ∧
    (0 < l.length → ∃ b off, a = some ⟨b, off, none⟩ ∧ ∀ j u, (flatL enc l)[j]? = some u → w.cell? ⟨b, off + j, none⟩ = some u)

theorem isRecs_nil (B : Nat) (w : World) (c : Nat) (a : Option Addr) : IsRecs enc B w (.slice a 0 c) ([] : List α) :=
  ⟨a, c, rfl, Nat.zero_le _, Nat.zero_le _, fun h => by simp at h⟩

theorem IsRecs.below {B : Nat} {w w' : World} {v : Value} {l : List α} (h : IsRecs enc B w v l) (hb : Below w.heap.size w w') : IsRecs enc B w' v l := by
  obtain ⟨a, cap, rfl, h1, h2, h4⟩ := h
  refine ⟨a, cap, rfl, h1, h2, fun hp => ?_⟩
  obtain ⟨b, off, rfl, hc⟩ := h4 hp
  refine ⟨b, off, rfl, fun j u hj => ?_⟩
  have h := hc j u hj
  rw [← h]
  exact hb.cell (cell_lt h)

theorem IsRecs.form {B : Nat} {w : World} {v : Value} {l : List α} (h : IsRecs enc B w v l) : ∃ a cap, v = .slice a l.length cap := by
  obtain ⟨a, cap, rfl, _⟩ := h
  exact ⟨a, cap, rfl⟩

theorem IsRecs.len {B : Nat} {w : World} {v : Value} {l : List α} (h : IsRecs enc B w v l) : l.length ≤ B := by
  obtain ⟨a, cap, rfl, _, h, _⟩ := h
  exact h

/-- The cells of an element, out of those of the list. -/
theorem recs_cell (S : Shape α m enc) {w : World} {b off : Nat} {l : List α} (hc : ∀ j u, (flatL enc l)[j]? = some u → w.cell? ⟨b, off + j, none⟩ = some u) (d : α) (k t : Nat) (hk : k < l.length) (ht : t < m) {u : Value}
    (hu : (enc (l.getD k d))[t]? = some u) : w.cell? ⟨b, off + k * m + t, none⟩ = some u := by
  rw [Nat.add_assoc]
  exact hc _ _ (by rw [flatL_get S l d k t hk ht, hu])

/-- A part of a slice that is read. -/
theorem recs_part (S : Shape α m enc) {w : World} {b off : Nat} {l : List α} (hc : ∀ j u, (flatL enc l)[j]? = some u → w.cell? ⟨b, off + j, none⟩ = some u) (k n : Nat) :
    ∀ j u, (flatL enc ((l.drop k).take n))[j]? = some u → w.cell? ⟨b, off + k * m + j, none⟩ = some u := by
  intro j u hj
  rw [← flatL_take S, ← flatL_drop S] at hj
  have hlt : j < n * m := by
    have := (List.getElem?_eq_some_iff.1 hj).1
    rw [List.length_take] at this
    omega
  rw [List.getElem?_take_of_lt hlt, List.getElem?_drop] at hj
  rw [Nat.add_assoc]
  exact hc _ _ hj

/-- The value v is a slice of the elements l, nil or a row that was made behind base. -/
def OwnR (e : TypeId) (m : Nat) (enc : α → List Value) (base : Nat) (w : World) (v : Value) (l : List α) : Prop := w.ownsRow base e m v l.length (flatL enc l)

theorem OwnR.recs {e : TypeId} {B base : Nat} {w : World} {v : Value} {l : List α} (h : OwnR e m enc base w v l) (hl : l.length ≤ B) : IsRecs enc B w v l := by
  obtain ⟨h1, h2 | ⟨g, cap, cur, rfl, hb, hg, hnc, hcm, hcs, ht⟩⟩ := h
  · obtain ⟨rfl, h0⟩ := h2
    refine ⟨none, 0, by rw [h0], by omega, hl, fun hp => by omega⟩
  · refine ⟨some ⟨g, 0, none⟩, cap, rfl, hnc, hl, fun _ => ⟨g, 0, rfl, fun j u hj => ?_⟩⟩
    rw [cell_of_row w g _ cur _ _ hg, Nat.zero_add]
    rw [← ht] at hj
    have hlt := (List.getElem?_eq_some_iff.1 hj).1
    rw [List.length_take] at hlt
    rw [List.getElem?_take_of_lt (by omega)] at hj
    simpa using hj

theorem OwnR.below {e : TypeId} {base : Nat} {w w' : World} {v : Value} {l : List α} (h : OwnR e m enc base w v l) (hb : Below w.heap.size w w') : OwnR e m enc base w' v l := by
  obtain ⟨h1, h2 | ⟨g, cap, cur, rfl, hbg, hg, hr⟩⟩ := h
  · exact ⟨h1, Or.inl h2⟩
  · exact ⟨h1, Or.inr ⟨g, cap, cur, rfl, hbg, (hb.block g (Array.getElem?_eq_some_iff.1 hg).1).trans hg, hr⟩⟩

theorem OwnR.mono {e : TypeId} {base base' : Nat} {w : World} {v : Value} {l : List α} (h : OwnR e m enc base w v l) (hb : base' ≤ base) : OwnR e m enc base' w v l := by
  obtain ⟨h1, h2 | ⟨g, cap, cur, rfl, hbg, hr⟩⟩ := h
  · exact ⟨h1, Or.inl h2⟩
  · exact ⟨h1, Or.inr ⟨g, cap, cur, rfl, Nat.le_trans hb hbg, hr⟩⟩

theorem ownR_nil (e : TypeId) (base : Nat) (w : World) : OwnR e m enc base w (.slice none 0 0) ([] : List α) := ⟨by simp [flatL], Or.inl ⟨rfl, rfl⟩⟩

theorem OwnR.form {e : TypeId} {base : Nat} {w : World} {v : Value} {l : List α} (h : OwnR e m enc base w v l) : ∃ a cap, v = .slice a l.length cap := by
  rcases h.2 with ⟨rfl, h0⟩ | ⟨g, cap, cur, rfl, _⟩
  · exact ⟨none, 0, by rw [h0]⟩
  · exact ⟨_, _, rfl⟩

theorem OwnR.lt {e : TypeId} {base : Nat} {w : World} {v : Value} {l : List α} (h : OwnR e m enc base w v l) : ∀ k, v.ownBlock = some k → base ≤ k ∧ k < w.heap.size := World.ownsRow.lt h

theorem ownR_of_row {e : TypeId} {base g cap : Nat} {w : World} {l : List α} {xs : List Value} (S : Shape α m enc) (hb : base ≤ g) (hr : OwnRow w g e xs) (h1 : l.length ≤ cap) (h2 : cap ≤ maxLen) (h3 : xs.length = cap * m) (h4 : xs.take (l.length * m) = flatL enc l) :
    OwnR e m enc base w (.slice (some ⟨g, 0, none⟩) l.length cap) l :=
  ⟨flatL_len S l, Or.inr ⟨g, cap, xs.toArray, rfl, hb, hr, h1, h2, by simpa using h3, by simpa using h4⟩⟩

theorem OwnR.row {e : TypeId} {base : Nat} {w : World} {v : Value} {l : List α} (h : OwnR e m enc base w v l) (hl : 0 < l.length) :
    ∃ g cap xs, v = .slice (some ⟨g, 0, none⟩) l.length cap ∧ base ≤ g ∧ OwnRow w g e xs ∧ l.length ≤ cap ∧ cap ≤ maxLen ∧ xs.length = cap * m ∧ xs.take (l.length * m) = flatL enc l := by
  rcases h.2 with ⟨-, h0⟩ | ⟨g, cap, cur, hv, hb, hg, h1, h2, h3, h4⟩
  · omega
  · exact ⟨g, cap, cur.toList, hv, hb, by simpa [OwnRow] using hg, h1, h2, by simpa using h3, h4⟩

theorem run_append_none' {P : Program} (w : World) (e t : TypeId) (i : TypeInfo) (ht : P.underlying t = some (.slice e)) (hi : P.info? e = some i) (base : Nat) (ty : TypeId) (c : Nat) (v : Value) (l : List α) (hown : OwnR e m enc base w v l) :
    (Builtin.append_ #[t, t] ty #[v, .slice none 0 c]).run P w = .ok v w := by
  rcases hown.2 with ⟨rfl, h0⟩ | ⟨g, cap, cur, rfl, _, _, hnc, _⟩
  · simp [Builtin.append_, run_underlying ht, sizeOf, typeInfo, hi, Builtin.lenOf, Builtin.firstCells]
  · simp [Builtin.append_, run_underlying ht, sizeOf, typeInfo, hi, Builtin.lenOf, Builtin.firstCells, hnc, storeCells]

/-- 'out = append(out, s...)', out nil or the call's own, s a slice of such elements. -/
theorem wpList_append_recs {P : Program} {w : World} {ops : Array Oper} {rest : List Oper} {o : Oper} {a : Act} {Q : Exit → Act → World → Prop} (S : Shape α m enc) (hgd : o.guard = none) (s x : Operand) (t e : TypeId) (i : TypeInfo) (z : Value) (bytes : Nat)
    (ho : o.op = .call { callee := .builtin .append, args := #[s, x], argTypes := #[t, t] })
    (ht : P.underlying t = some (.slice e)) (hi : P.info? e = some i) (hz0 : i.zero = some z) (hz1 : i.size = m) (hz2 : i.bytes = bytes) (hzs : z.cells.size = m)
    (base : Nat) (v : Value) (l : List α) (hs : a.eval s = v) (hown : OwnR e m enc base w v l) (B : Nat) (u : Value) (r : List α) (hx : a.eval x = u) (hu : IsRecs enc B w u r)
    (hlen : (l.length + r.length) * bytes ≤ 140737488355328) (hlen2 : l.length + r.length ≤ maxLen) (hbase : base ≤ w.heap.size)
    (h : ∀ v' w', OwnR e m enc base w' v' (l ++ r) → Below base w w' → wpList P ops Q rest (a.put o.dst v') w') : wpList P ops Q (o :: rest) a w := by
  obtain ⟨ad, cap, rfl, h1, hl, hc'⟩ := hu
  cases ad with
  | none =>
    by_cases hp : 0 < r.length
    · obtain ⟨b, off, hn, -⟩ := hc' hp
      cases hn
    · obtain rfl : r = [] := List.eq_nil_of_length_eq_zero (by omega)
      refine Lib.wpList_append_run w hgd s x _ _ ho _ _ hs hx v w (run_append_none' w e t i ht hi base o.type cap v l hown) ?_
      exact h v w (by simpa using hown) (Below.refl _ _)
  | some ad =>
    refine wpList_append_own w hgd s x _ ho base e i z m bytes ht hi hz0 hz1 hz2 hzs S.pos v l.length (flatL enc l) hs hown ad r.length cap (flatL enc r) hx (flatL_len S r) ?_ (flatL_ones S r) hlen2 hlen hbase ?_
    · intro j u hj
      have hlt : j < (flatL enc r).length := (List.getElem?_eq_some_iff.1 hj).1
      obtain ⟨b, off, hn, hc⟩ := hc' (by
        rcases Nat.eq_zero_or_pos r.length with h0 | h0
        · rw [List.eq_nil_of_length_eq_zero h0] at hlt; simp [flatL] at hlt
        · exact h0)
      cases hn
      rw [add_none]
      exact hc j u hj
    · intro v' w' hown' hgrow _
      refine h v' w' ?_ ((Below.refl _ _).grown hgrow hbase (fun k hk => (hown.lt k hk).1))
      unfold OwnR
      rw [flatL_append, List.length_append]
      exact hown'

/-- 'out = append(out, x)' at a step of a region that draws: out nil or the call's own, x in a new row of its own. -/
theorem step_append_rec {P : Program} {ops : Array Oper} {o : Oper} {a : Act} {W : World} {K : Act → World → Prop} {Q : Exit → Act → World → Prop} {E : Prop} (S : Shape α m enc)
    (hg : o.guard = none) (s x : Operand) (t e : TypeId) (i : TypeInfo) (z : Value) (bytes : Nat) (hop : o.op = Op.call { callee := Callee.builtin Builtin.append, args := #[s, x], argTypes := #[t, t] })
    (ht : P.underlying t = some (.slice e)) (hi : P.info? e = some i) (hz0 : i.zero = some z) (hz1 : i.size = m) (hz2 : i.bytes = bytes) (hzs : z.cells.size = m)
    (base : Nat) (v : Value) (l : List α) (hs : a.eval s = v) (wr : World) (hown : OwnR e m enc base wr v l) (hbW : Below wr.heap.size wr W) (hbase : base ≤ wr.heap.size) (hlen : (l.length + 1) * bytes ≤ 140737488355328) (hlen2 : l.length + 1 ≤ maxLen)
    (p : α) (ad : Addr) (c : Nat) (hx : a.eval x = .slice (some ad) 1 c) (hn : ∀ j u, (enc p)[j]? = some u → W.cell? (ad.add j) = some u)
    (h : ∀ v' w', OwnR e m enc base w' v' (l ++ [p]) → Below base W w' → K (a.put o.dst v') w') :
    if Region.wanted o (yielded ops a.tmps) = true then Oper.wp P o a W K Q else E := by
  have hw : Region.wanted o (yielded ops a.tmps) = true := by simp [Region.wanted, hg]
  have hbW2 := hbW.size
  rw [if_pos hw]
  refine wp_append_own W s x t hop base e i z m bytes ht hi hz0 hz1 hz2 hzs S.pos v l.length (flatL enc l) hs (hown.below hbW) ad 1 c (enc p) hx (by rw [S.len, Nat.one_mul]) hn (S.one p) hlen2 hlen (by omega) ?_
  intro v' w' hown' hgrow _
  refine h v' w' ?_ ((Below.refl _ _).grown hgrow (by omega) (fun k hk => (hown.lt k hk).1))
  unfold OwnR
  rw [flatL_append, List.length_append, flatL_one]
  exact hown'

/-- 'out = append(out, x)', not in a region that draws. -/
theorem wpList_append_rec {P : Program} {W : World} {ops : Array Oper} {rest : List Oper} {o : Oper} {a : Act} {Q : Exit → Act → World → Prop} (S : Shape α m enc)
    (hgd : o.guard = none) (s x : Operand) (t e : TypeId) (i : TypeInfo) (z : Value) (bytes : Nat) (hop : o.op = Op.call { callee := Callee.builtin Builtin.append, args := #[s, x], argTypes := #[t, t] })
    (ht : P.underlying t = some (.slice e)) (hi : P.info? e = some i) (hz0 : i.zero = some z) (hz1 : i.size = m) (hz2 : i.bytes = bytes) (hzs : z.cells.size = m)
    (base : Nat) (v : Value) (l : List α) (hs : a.eval s = v) (wr : World) (hown : OwnR e m enc base wr v l) (hbW : Below wr.heap.size wr W) (hbase : base ≤ wr.heap.size) (hlen : (l.length + 1) * bytes ≤ 140737488355328) (hlen2 : l.length + 1 ≤ maxLen)
    (p : α) (ad : Addr) (c : Nat) (hx : a.eval x = .slice (some ad) 1 c) (hn : ∀ j u, (enc p)[j]? = some u → W.cell? (ad.add j) = some u)
    (h : ∀ v' w', OwnR e m enc base w' v' (l ++ [p]) → Below base W w' → wpList P ops Q rest (a.put o.dst v') w') : wpList P ops Q (o :: rest) a W := by
  have hbW2 := hbW.size
  refine wpList_append_own W hgd s x t hop base e i z m bytes ht hi hz0 hz1 hz2 hzs S.pos v l.length (flatL enc l) hs (hown.below hbW) ad 1 c (enc p) hx (by rw [S.len, Nat.one_mul]) hn (S.one p) hlen2 hlen (by omega) ?_
  intro v' w' hown' hgrow _
  refine h v' w' ?_ ((Below.refl _ _).grown hgrow (by omega) (fun k hk => (hown.lt k hk).1))
  unfold OwnR
  rw [flatL_append, List.length_append, flatL_one]
  exact hown'

theorem xs_cell' {w : World} {g : Nat} {e : TypeId} {xs : List Value} (h : OwnRow w g e xs) {j : Nat} (hj : j < xs.length) : (w.cell? ⟨g, j, none⟩).isSome = true := by
  rw [h.cell, List.getElem?_eq_getElem hj]; rfl

/-- 'clear(s)' of n elements, their zero value's cells zs. -/
theorem run_clear_recs {P : Program} (w : World) (t e ty : TypeId) (z : Value) (zs : List Value) (b o n c : Nat) (hn : 0 < n) (ht : P.underlying t = some (.slice e)) (hz : (zeroValue e).run P w = .ok z w) (hzc : (Builtin.zeroCells z.cells n).toList = zs) (hone : ∀ v ∈ zs, v.oneCell' = true)
    (hc : ∀ j, j < zs.length → (w.cell? ⟨b, o + j, none⟩).isSome = true) (hf : ∀ j, j < zs.length → w.frozen? ⟨b, o + j, none⟩ = false) :
    (Builtin.clear_ #[t] ty #[.slice (some ⟨b, o, none⟩) n c]).run P w = .ok (.tuple #[]) (w.setCells b o zs) := by
  have hst := run_storeCells_cells (P := P) b o zs 0 w (by simpa using hc) (by simpa using hf) hone
  simp only [Nat.add_zero] at hst
  obtain ⟨n, rfl⟩ : ∃ k, n = k + 1 := ⟨n - 1, by omega⟩
  simp [Builtin.clear_, run_underlying ht, hz, hzc, hst]

/-- 'append' where there is room, not in a region that draws. -/
theorem wpList_append_fits {P : Program} {w : World} {ops : Array Oper} {rest : List Oper} {o : Oper} {a : Act} {Q : Exit → Act → World → Prop} (hgd : o.guard = none) (s x : Operand) (t : TypeId)
    (hop : o.op = Op.call { callee := Callee.builtin Builtin.append, args := #[s, x], argTypes := #[t, t] })
    (e : TypeId) (i : TypeInfo) (size : Nat) (h1 : P.underlying t = some (.slice e)) (h2 : P.info? e = some i) (h4 : i.size = size)
    (b off n cap : Nat) (hs : a.eval s = .slice (some ⟨b, off, none⟩) n cap)
    (ad : Addr) (k c : Nat) (news : List Value) (hx : a.eval x = .slice (some ad) k c) (hn : news.length = k * size) (hc : ∀ j u, news[j]? = some u → w.cell? (ad.add j) = some u) (h1c : ∀ u ∈ news, u.oneCell' = true)
    (hroom : n + k ≤ cap) (hspare : ∀ j, j < news.length → (w.cell? ⟨b, off + n * size + j, none⟩).isSome = true ∧ w.frozen? ⟨b, off + n * size + j, none⟩ = false)
    (hK : wpList P ops Q rest (a.put o.dst (.slice (some ⟨b, off, none⟩) (n + k) cap)) (w.setCells b (off + n * size) news)) :
    wpList P ops Q (o :: rest) a w := by
  subst h4
  exact Lib.wpList_append_run w hgd s x _ _ hop _ _ hs hx _ _ (run_append_room_cells (P := P) w t o.type e i h1 h2 b off n cap ad k c news hn hc h1c hroom (fun j hj => (hspare j hj).1) (fun j hj => (hspare j hj).2)) hK

theorem heap_setCells_other {g h : Nat} (hne : g ≠ h) : ∀ (vs : List Value) (o : Nat) (w : World), (w.setCells g o vs).heap[h]? = w.heap[h]?
  | [], _, _ => rfl
  | v :: r, o, w => by
    rw [World.setCells, heap_setCells_other hne r (o + 1)]
    simp only [World.setCell, Array.getElem?_modify, if_neg hne]

theorem OwnRow.other {w : World} {g h : Nat} {e : TypeId} {xs : List Value} (hr : OwnRow w h e xs) (hne : g ≠ h) (o : Nat) (vs : List Value) : OwnRow (w.setCells g o vs) h e xs :=
  hr.of_block (heap_setCells_other hne vs o w)

theorem size_setCells {g : Nat} : ∀ (vs : List Value) (o : Nat) (w : World), (w.setCells g o vs).heap.size = w.heap.size
  | [], _, _ => rfl
  | v :: r, o, w => by
    rw [World.setCells, size_setCells r (o + 1)]
    simp [World.setCell]

theorem OwnRow.quad {w : World} {g : Nat} {e : TypeId} {a b c d : Value} (h : OwnRow w g e [a, b, c, d]) :
    w.cell? ⟨g, 0, none⟩ = some a ∧ w.cell? ⟨g, 1, none⟩ = some b ∧ w.cell? ⟨g, 2, none⟩ = some c ∧ w.cell? ⟨g, 3, none⟩ = some d :=
  ⟨by rw [h.cell]; rfl, by rw [h.cell]; rfl, by rw [h.cell]; rfl, by rw [h.cell]; rfl⟩

theorem below_one {w w2 : World} {o : Obj} (h : Below (w.alloc o).heap.size (w.alloc o) w2) : Below w.heap.size w w2 :=
  ((Below.refl _ _).alloc (Nat.le_refl _) _).trans (h.mono (by simp))

theorem drop_more {α : Type} {xs ys : List α} {i j : Nat} (h : xs.drop i = ys.drop i) (hj : i ≤ j) : xs.drop j = ys.drop j := by
  obtain ⟨k, rfl⟩ : ∃ k, j = i + k := ⟨j - i, by omega⟩
  rw [← List.drop_drop, ← List.drop_drop, h]

/-- 'make([]T, l, c)', T of m cells: a new row. -/
theorem wpList_make_room {P : Program} (w : World) {ops : Array Oper} {rest : List Oper} {o : Oper} {a : Act} {Q : Exit → Act → World → Prop}
    (hg : o.guard = none) (l c : Operand) (t : TypeId) (hop : o.op = Op.makeSlice t l c)
    (e : TypeId) (i : TypeInfo) (z : Value) (h1 : P.underlying t = some (.slice e)) (h2 : P.info? e = some i) (h3 : i.zero = some z) (h4 : i.size = m)
    (kl kc : IntKind) (L C : Nat) (hl : a.eval l = .int kl L) (hc : a.eval c = .int kc C) (hLC : L ≤ C) (b2 : i.bytes * C ≤ 281474976710656) (b3 : C ≤ maxLen)
    (hK : ∀ w' xs, OwnRow w' w.heap.size e xs → xs.length = C * m → Below w.heap.size w w' → w'.heap.size = w.heap.size + 1 → wpList P ops Q rest (a.put o.dst (.slice (some ⟨w.heap.size, 0, none⟩) L C)) w') :
    wpList P ops Q (o :: rest) a w := by
  refine wpList_plain hg fun K hK' => ?_
  have b2' : (i.bytes : Int) * (C : Int) ≤ 281474976710656 := by rw [← Int.natCast_mul]; omega
  have b3' : (C : Int) ≤ 9223372036854775807 := by unfold maxLen at b3; omega
  have hrun := run_make (P := P) w t e i z h1 h2 h3 kl kc (L : Int) (C : Int) (by omega) (by omega) b2' b3'
  rw [Int.toNat_natCast, Int.toNat_natCast] at hrun
  unfold Oper.wp
  simp [execOp, hop, hl, hc, hrun, Result.andThen]
  refine hK' _ _ (hK _ (madeCells z.cells (C * i.size)).toList ?_ ?_ ((Below.refl _ _).alloc (Nat.le_refl _) _) (by simp))
  · unfold OwnRow
    rw [heap_alloc_new]
  · rw [← h4]; simp [size_madeCells]

/-- All that lay in w but block g lies in w' as it did. -/
def Spare (g : Nat) (w w' : World) : Prop := w.heap.size ≤ w'.heap.size ∧ (∀ h, h < w.heap.size → h ≠ g → w'.heap[h]? = w.heap[h]?) ∧ w'.os = w.os ∧ w'.tape = w.tape ∧ w'.output = w.output

theorem Spare.refl (g : Nat) (w : World) : Spare g w w := ⟨Nat.le_refl _, fun _ _ _ => rfl, rfl, rfl, rfl⟩
theorem Spare.trans {g : Nat} {w w1 w2 : World} (h : Spare g w w1) (h2 : Spare g w1 w2) : Spare g w w2 :=
  ⟨Nat.le_trans h.1 h2.1, fun k hk hne => (h2.2.1 k (Nat.lt_of_lt_of_le hk h.1) hne).trans (h.2.1 k hk hne), h2.2.2.1.trans h.2.2.1, h2.2.2.2.1.trans h.2.2.2.1, h2.2.2.2.2.trans h.2.2.2.2⟩
theorem Spare.of_below {g : Nat} {w w' : World} (h : Below w.heap.size w w') : Spare g w w' := ⟨h.size, fun k hk _ => h.block k hk, h.os, h.tape, h.output⟩
theorem Spare.setCells {g : Nat} {w w1 : World} (h : Spare g w w1) (o : Nat) (vs : List Value) : Spare g w (w1.setCells g o vs) :=
  have b := below_setCells (Nat.zero_le g) vs o w1 w1 (Below.refl 0 w1)
  ⟨by rw [size_setCells]; exact h.1, fun k hk hne => (heap_setCells_other (Ne.symm hne) vs o w1).trans (h.2.1 k hk hne), b.os.trans h.2.2.1, b.tape.trans h.2.2.2.1, b.output.trans h.2.2.2.2⟩
theorem Spare.alloc {g : Nat} {w w1 : World} (h : Spare g w w1) (o : Obj) : Spare g w (w1.alloc o) :=
  h.trans (Spare.of_below ((Below.refl _ _).alloc (Nat.le_refl _) _))
theorem Spare.to_below {g B : Nat} {w w' : World} (h : Spare g w w') (hB : B ≤ w.heap.size) (hg : B ≤ g) : Below B w w' := ⟨h.2.2.1, h.2.2.2.1, h.2.2.2.2, h.1, fun k hk => h.2.1 k (by omega) (by omega)⟩
theorem Spare.row {g k : Nat} {w w' : World} {e : TypeId} {xs : List Value} (h : Spare g w w') (hr : OwnRow w k e xs) (hne : k ≠ g) : OwnRow w' k e xs := hr.of_block (h.2.1 k hr.lt hne)
theorem Spare.cell {g : Nat} {w w' : World} (h : Spare g w w') {a : Addr} {v : Value} (hc : w.cell? a = some v) (hne : a.block ≠ g) : w'.cell? a = some v := by
  rw [← hc]
  exact World.cell?_of_block (h.2.1 a.block (cell_lt hc) hne)

theorem spl_drop_hi {xs : List Value} {o k : Nat} {vs : List Value} (h : o + vs.length ≤ k) (h2 : o ≤ xs.length) : (spl xs o vs).drop k = xs.drop k := by
  unfold spl
  rw [List.drop_append, List.drop_of_length_le (by rw [List.length_append, List.length_take]; omega), List.nil_append, List.drop_drop]
  congr 1
  rw [List.length_append, List.length_take]
  omega

end
end Go.Proofs.Ytbiipnojhjhejaa

/- Slices of api.Region as lists of spans with what they are like: how one stands in memory. -/
namespace Go.Proofs.Ytbiipnojhjhejaa
set_option maxRecDepth 100000
open Go.RowKit
set_option linter.unusedSimpArgs false
set_option linter.unusedVariables false

/-- From, To, Rights, Key, Tagged, Sealed. -/
def encR (x : R6) : List Value := [.int .i64 x.1, .int .i64 x.2.1, .int .i64 x.2.2.1, .int .i64 x.2.2.2.1, .bool x.2.2.2.2.1, .bool x.2.2.2.2.2]

theorem shR : Shape R6 6 encR := ⟨fun _ => rfl, fun x v hv => by
  simp only [encR, List.mem_cons, List.not_mem_nil, or_false] at hv
  rcases hv with rfl | rfl | rfl | rfl | rfl | rfl <;> rfl, by decide⟩

theorem info_region : (Try.prog.info? 50).map (fun i => (i.zero, i.size, i.bytes)) = some (some (.agg #[.int .i64 0, .int .i64 0, .int .i64 0, .int .i64 0, .bool false, .bool false]), 6, 40) := by kernel_rfl

def bdI (x : Int) : Prop := -9223372036854775808 ≤ x ∧ x ≤ 9223372036854775807
/-- From and To are numbers of sixty-four bits. -/
def wfR (x : R6) : Prop := bdI x.1 ∧ bdI x.2.1

theorem wf_bd {x : Int} (h : (Lit.int .i64 x).wf = true) : bdI x := by
  have hb := bounds_i64 h
  exact ⟨by omega, by omega⟩

/-- Six cells of a row. -/
theorem OwnRow.six {w : World} {g : Nat} {e : TypeId} {a b c d x y : Value} (h : OwnRow w g e [a, b, c, d, x, y]) :
    w.cell? ⟨g, 0, none⟩ = some a ∧ w.cell? ⟨g, 1, none⟩ = some b ∧ w.cell? ⟨g, 2, none⟩ = some c ∧ w.cell? ⟨g, 3, none⟩ = some d ∧ w.cell? ⟨g, 4, none⟩ = some x ∧ w.cell? ⟨g, 5, none⟩ = some y :=
  ⟨by rw [h.cell]; rfl, by rw [h.cell]; rfl, by rw [h.cell]; rfl, by rw [h.cell]; rfl, by rw [h.cell]; rfl, by rw [h.cell]; rfl⟩

/-- The six cells of an element, in a later world. -/
theorem cell6 {w wr : World} {b off : Nat} {l : List R6} (hc : ∀ j u, (flatL encR l)[j]? = some u → w.cell? ⟨b, off + j, none⟩ = some u) (hbel : Below w.heap.size w wr) (k : Nat) (hk : k < l.length) {f t r y : Int} {g s : Bool} (hp : (f, t, r, y, g, s) = l.getD k zR) :
    wr.cell? ⟨b, off + k * 6, none⟩ = some (.int .i64 f) ∧ wr.cell? ⟨b, off + k * 6 + 1, none⟩ = some (.int .i64 t) ∧ wr.cell? ⟨b, off + k * 6 + 2, none⟩ = some (.int .i64 r) ∧ wr.cell? ⟨b, off + k * 6 + 3, none⟩ = some (.int .i64 y) ∧ wr.cell? ⟨b, off + k * 6 + 4, none⟩ = some (.bool g) ∧ wr.cell? ⟨b, off + k * 6 + 5, none⟩ = some (.bool s) := by
  have hcell := fun t u ht hu => recs_cell shR hc zR k t hk ht (u := u) hu
  rw [← hp] at hcell
  have go := fun t u ht hu => (hbel.cell (cell_lt (hcell t u ht hu))).trans (hcell t u ht hu)
  exact ⟨go 0 _ (by decide) rfl, go 1 _ (by decide) rfl, go 2 _ (by decide) rfl, go 3 _ (by decide) rfl, go 4 _ (by decide) rfl, go 5 _ (by decide) rfl⟩

/-- A box that was just laid: its cells. -/
theorem box6 (W : World) (s : Nat) (hs : s = W.heap.size) (f t r k : Int) (g e : Bool) (ty : TypeId) : ∀ j u, (encR (f, t, r, k, g, e))[j]? = some u → (W.alloc (.cells #[.int .i64 f, .int .i64 t, .int .i64 r, .int .i64 k, .bool g, .bool e] ty)).cell? (Addr.add ⟨s, 0, none⟩ j) = some u := by
  intro j v hj
  subst hs
  rw [add_none, Nat.zero_add]
  have : OwnRow (W.alloc (.cells #[.int .i64 f, .int .i64 t, .int .i64 r, .int .i64 k, .bool g, .bool e] ty)) W.heap.size ty (encR (f, t, r, k, g, e)) := heap_alloc_new W _
  rw [this.cell, hj]

end Go.Proofs.Ytbiipnojhjhejaa

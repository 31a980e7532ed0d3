/- Processes as they lie in memory: one variable that holds four of them, one behind the other; what reading and writing of its cells makes of them. -/
import Derived.Test.YtbiipnojhjhejaaFlatMath
import Derived.Test.YtbiipnojhjhejaaJReg1
import Derived.Test.YtbiipnojhjhejaaJReg3
import Derived.Test.YtbiipnojhjhejaaPlace2
import Derived.Test.YtbiipnojhjhejaaJKeys
import Derived.Deep.MidRow
import Derived.Deep.WholeRow
import Derived.Test.YtbiipnojhjhejaaInts
import Derived.RangeFuncWrites
namespace Go.Proofs.Ytbiipnojhjhejaa
set_option maxRecDepth 100000
open Go.RowKit
set_option linter.unusedSimpArgs false
set_option linter.unusedVariables false

/-- Four keys as cells. -/
def k8L (l : K8) : List Value := [.bool l.1, .int .i64 l.2.1, .bool l.2.2.1, .int .i64 l.2.2.2.1, .bool l.2.2.2.2.1, .int .i64 l.2.2.2.2.2.1, .bool l.2.2.2.2.2.2.1, .int .i64 l.2.2.2.2.2.2.2]

/-- A process's cells from place off on: v is its regions' slice. -/
structure PC (xs : List Value) (off : Nat) (p : Pr) (v : Value) : Prop where
  live : xs[off]? = some (.bool p.live)
  regs : xs[off + 1]? = some v
  keys : ∀ i, i < 8 → xs[off + 2 + i]? = (k8L p.K)[i]?

theorem spl_get {xs vs : List Value} {o : Nat} (h : o + vs.length ≤ xs.length) (j : Nat) : (spl xs o vs)[j]? = if o ≤ j ∧ j < o + vs.length then vs[j - o]? else xs[j]? := by
  unfold spl
  by_cases h1 : j < o
  · rw [if_neg (by omega), List.append_assoc, List.getElem?_append_left (by rw [List.length_take]; omega), List.getElem?_take_of_lt h1]
  · by_cases h2 : j < o + vs.length
    · rw [if_pos ⟨by omega, h2⟩, List.append_assoc, List.getElem?_append_right (by rw [List.length_take]; omega), List.length_take, Nat.min_eq_left (by omega), List.getElem?_append_left (by omega)]
    · rw [if_neg (by omega), List.getElem?_append_right (by rw [List.length_append, List.length_take]; omega), List.length_append, List.length_take, Nat.min_eq_left (by omega), List.getElem?_drop]
      congr 1
      omega

/-- Cells elsewhere are written. -/
theorem PC.spl {xs : List Value} {off : Nat} {p : Pr} {v : Value} (h : PC xs off p v) {o : Nat} {vs : List Value} (hl : o + vs.length ≤ xs.length) (ha : o + vs.length ≤ off ∨ off + 10 ≤ o) : PC (spl xs o vs) off p v := by
  refine ⟨?_, ?_, fun i hi => ?_⟩
  · rw [spl_get hl, if_neg (by omega)]; exact h.live
  · rw [spl_get hl, if_neg (by omega)]; exact h.regs
  · rw [spl_get hl, if_neg (by omega)]; exact h.keys i hi

theorem ownR_setCells {e : TypeId} {α : Type} {m : Nat} {enc : α → List Value} {base g : Nat} {w : World} {v : Value} {l : List α} (h : OwnR e m enc base w v l) (hg : g < base) (o : Nat) (vs : List Value) : OwnR e m enc base (w.setCells g o vs) v l := by
  obtain ⟨h1, h2 | ⟨g', cap, cur, rfl, hbg, hg', hr⟩⟩ := h
  · exact ⟨h1, Or.inl h2⟩
  · exact ⟨h1, Or.inr ⟨g', cap, cur, rfl, hbg, (heap_setCells_other (by omega) vs o w).trans hg', hr⟩⟩

/-- Block g is four processes; their regions lie in rows that were made behind base. -/
structure WOK (mv : Value) (base g : Nat) (w : World) (S : W4) : Prop where
  lt : g < base
  le : base ≤ w.heap.size
  row : ∃ xs, OwnRow w g 91 xs ∧ xs.length = 41 ∧ xs[40]? = some mv ∧ ∀ k, k < 4 → ∃ v, PC xs (k * 10) (S k) v ∧ OwnR 50 6 encR base w v (S k).L

theorem WOK.below {mv : Value} {base g : Nat} {w w' : World} {S : W4} (h : WOK mv base g w S) (hb : Below w.heap.size w w') : WOK mv base g w' S := by
  obtain ⟨h1, h2, xs, h3, h4, h40, h5⟩ := h
  refine ⟨h1, Nat.le_trans h2 hb.size, xs, h3.below hb h3.lt, h4, h40, fun k hk => ?_⟩
  obtain ⟨v, hv, ho⟩ := h5 k hk
  exact ⟨v, hv, ho.below hb⟩

/-- Cells of process k are written. -/
theorem WOK.splice {mv : Value} {base g : Nat} {w : World} {S : W4} (h : WOK mv base g w S) {k : Nat} (hk : k < 4) {i : Nat} {vs : List Value} (hi : i + vs.length ≤ 10) {p' : Pr}
    (hp : ∀ xs v, k * 10 + i + vs.length ≤ xs.length → PC xs (k * 10) (S k) v → OwnR 50 6 encR base w v (S k).L → ∃ v', PC (spl xs (k * 10 + i) vs) (k * 10) p' v' ∧ OwnR 50 6 encR base w v' p'.L) :
    WOK mv base g (w.setCells g (k * 10 + i) vs) (upd S k p') := by
  obtain ⟨h1, h2, xs, h3, h4, h40, h5⟩ := h
  have hl : k * 10 + i + vs.length ≤ xs.length := by omega
  refine ⟨h1, by rw [size_setCells]; exact h2, _, h3.setCells vs _ _ _ hl, by rw [spl_len hl]; exact h4, by rw [spl_get hl, if_neg (by omega)]; exact h40, fun j hj => ?_⟩
  by_cases hjk : j = k
  · subst hjk
    obtain ⟨v, hv, ho⟩ := h5 j hj
    obtain ⟨v', hv', ho'⟩ := hp xs v hl hv ho
    rw [upd_at]
    exact ⟨v', hv', ownR_setCells ho' h1 _ _⟩
  · obtain ⟨v, hv, ho⟩ := h5 j hj
    rw [upd_ne hjk]
    exact ⟨v, hv.spl hl (by omega), ownR_setCells ho h1 _ _⟩

/-! What is read. -/
theorem WOK.live {mv : Value} {base g : Nat} {w : World} {S : W4} (h : WOK mv base g w S) {k : Nat} (hk : k < 4) : w.cell? ⟨g, k * 10, none⟩ = some (.bool (S k).live) := by
  obtain ⟨h1, h2, xs, h3, h4, h40, h5⟩ := h
  obtain ⟨v, hv, ho⟩ := h5 k hk
  rw [h3.cell]; exact hv.live

theorem WOK.regs {mv : Value} {base g : Nat} {w : World} {S : W4} (h : WOK mv base g w S) {k : Nat} (hk : k < 4) :
    ∃ a cap, w.cell? ⟨g, k * 10 + 1, none⟩ = some (.slice a (S k).L.length cap) ∧ OwnR 50 6 encR base w (.slice a (S k).L.length cap) (S k).L := by
  obtain ⟨h1, h2, xs, h3, h4, h40, h5⟩ := h
  obtain ⟨v, hv, ho⟩ := h5 k hk
  obtain ⟨a, cap, rfl⟩ := ho.form
  exact ⟨a, cap, by rw [h3.cell]; exact hv.regs, ho⟩

theorem WOK.free {mv : Value} {base g : Nat} {w : World} {S : W4} (h : WOK mv base g w S) (i : Nat) : w.frozen? ⟨g, i, none⟩ = false := by
  obtain ⟨h1, h2, xs, h3, h4, h40, h5⟩ := h
  exact h3.free i

theorem WOK.glt {mv : Value} {base g : Nat} {w : World} {S : W4} (h : WOK mv base g w S) : g < w.heap.size := Nat.lt_of_lt_of_le h.lt h.le

theorem WOK.keys {mv : Value} {base g : Nat} {w : World} {S : W4} (h : WOK mv base g w S) {k : Nat} (hk : k < 4) :
    (w.cell? ⟨g, k * 10 + 2, none⟩ = some (.bool (S k).K.1) ∧ w.cell? ⟨g, k * 10 + 2 + 1, none⟩ = some (.int .i64 (S k).K.2.1) ∧
    w.cell? ⟨g, k * 10 + 2 + 2, none⟩ = some (.bool (S k).K.2.2.1) ∧ w.cell? ⟨g, k * 10 + 2 + 3, none⟩ = some (.int .i64 (S k).K.2.2.2.1)) ∧
    w.cell? ⟨g, k * 10 + 2 + 4, none⟩ = some (.bool (S k).K.2.2.2.2.1) ∧ w.cell? ⟨g, k * 10 + 2 + 5, none⟩ = some (.int .i64 (S k).K.2.2.2.2.2.1) ∧
    w.cell? ⟨g, k * 10 + 2 + 6, none⟩ = some (.bool (S k).K.2.2.2.2.2.2.1) ∧ w.cell? ⟨g, k * 10 + 2 + 7, none⟩ = some (.int .i64 (S k).K.2.2.2.2.2.2.2) := by
  obtain ⟨h1, h2, xs, h3, h4, h40, h5⟩ := h
  obtain ⟨v, hv, ho⟩ := h5 k hk
  have := hv.keys
  exact ⟨⟨by rw [h3.cell]; exact this 0 (by decide), by rw [h3.cell]; exact this 1 (by decide), by rw [h3.cell]; exact this 2 (by decide), by rw [h3.cell]; exact this 3 (by decide)⟩,
    by rw [h3.cell]; exact this 4 (by decide), by rw [h3.cell]; exact this 5 (by decide), by rw [h3.cell]; exact this 6 (by decide), by rw [h3.cell]; exact this 7 (by decide)⟩

theorem WOK.keyRange {mv : Value} {base g : Nat} {w : World} {S : W4} (h : WOK mv base g w S) {k : Nat} (hk : k < 4) : w.rangeAt g (k * 10 + 2) (k8L (S k).K) := by
  obtain ⟨h1, h2, xs, h3, h4, h40, h5⟩ := h
  obtain ⟨v, hv, ho⟩ := h5 k hk
  intro j u hj
  have hlt : j < 8 := (List.getElem?_eq_some_iff.1 hj).1
  rw [h3.cell, hv.keys j hlt]
  exact hj

/-! What is written. -/
theorem WOK.setRegs {mv : Value} {base g : Nat} {w : World} {S : W4} (h : WOK mv base g w S) {k : Nat} (hk : k < 4) {v : Value} {l : List R6} (ho : OwnR 50 6 encR base w v l) :
    WOK mv base g (w.setCell ⟨g, k * 10 + 1, none⟩ v) (upd S k { S k with L := l }) := by
  refine h.splice (vs := [v]) hk (by simp) (fun xs u hl hp ho' => ⟨v, ⟨?_, ?_, fun i hi => ?_⟩, ho⟩)
  · rw [spl_get hl, if_neg (by omega)]; exact hp.live
  · rw [spl_get hl, if_pos ⟨Nat.le_refl _, by rw [List.length_singleton]; omega⟩, Nat.sub_self, List.getElem?_cons_zero]
  · rw [spl_get hl, if_neg (by simp <;> omega)]; exact hp.keys i hi

theorem k8L_len (l : K8) : (k8L l).length = 8 := rfl

theorem WOK.setKeys {mv : Value} {base g : Nat} {w : World} {S : W4} (h : WOK mv base g w S) {k : Nat} (hk : k < 4) (l : K8) :
    WOK mv base g (w.setCells g (k * 10 + 2) (k8L l)) (upd S k { S k with K := l }) := by
  refine h.splice hk (by rw [k8L_len]; omega) (fun xs u hl hp ho' => ⟨u, ⟨?_, ?_, fun i hi => ?_⟩, ho'⟩)
  · rw [spl_get hl, if_neg (by omega)]; exact hp.live
  · rw [spl_get hl, if_neg (by omega)]; exact hp.regs
  · rw [spl_get hl, if_pos (by rw [k8L_len]; omega), Nat.add_sub_cancel_left]

/-- What is written to block g leaves all else. -/
theorem Spare.set {g : Nat} {w w1 : World} (h : Spare g w w1) (i : Nat) (v : Value) : Spare g w (w1.setCell ⟨g, i, none⟩ v) := h.setCells i [v]

theorem Spare.below {g : Nat} {w w1 w2 : World} (h : Spare g w w1) (hb : Below w1.heap.size w1 w2) : Spare g w w2 := h.trans (Spare.of_below hb)

/-- The regions of a process as a slice that is read, in a later world too. -/
theorem WOK.recs {mv : Value} {base g : Nat} {w : World} {S : W4} (h : WOK mv base g w S) (hi : Inv S) {k : Nat} (hk : k < 4) :
    ∃ a cap, w.cell? ⟨g, k * 10 + 1, none⟩ = some (.slice a (S k).L.length cap) ∧ IsRecs encR 64 w (.slice a (S k).L.length cap) (S k).L ∧ (S k).L.length ≤ 64 := by
  obtain ⟨a, cap, h1, h2⟩ := h.regs hk
  have h3 := good_len (hi.1 k).good
  exact ⟨a, cap, h1, h2.recs h3, h3⟩

end Go.Proofs.Ytbiipnojhjhejaa

/- Memory as processes see it: which pages are there, what stands at each address; what is taken, copied, stored, marked; no program is named. -/
namespace Go.Proofs.Ytbiipnojhjhejaa
set_option maxRecDepth 100000
set_option linter.unusedSimpArgs false
set_option linter.unusedVariables false

/-- Who lives, which pages are there, bytes and tags: where no page is, all is 0. -/
structure MV where
  lv : Nat → Bool
  P : Nat → Int → Bool
  B : Nat → Nat → Int
  T : Nat → Nat → Int

namespace MV
def cut (V : MV) (k : Nat) (f t : Nat) : MV :=
  { V with
    P := fun j q => if j = k ∧ (f : Int) ≤ q ∧ q < t then false else V.P j q
    B := fun j a => if j = k ∧ f ≤ a / 64 ∧ a / 64 < t then 0 else V.B j a
    T := fun j a => if j = k ∧ f ≤ a / 4 ∧ a / 4 < t then 0 else V.T j a }
def fork (V : MV) (k c : Nat) : MV :=
  { lv := fun j => if j = c then true else V.lv j
    P := fun j => if j = c then V.P k else V.P j
    B := fun j => if j = c then V.B k else V.B j
    T := fun j => if j = c then V.T k else V.T j }
def exit (V : MV) (k : Nat) : MV :=
  { lv := fun j => if j = k then false else V.lv j
    P := fun j => if j = k then fun _ => false else V.P j
    B := fun j => if j = k then fun _ => 0 else V.B j
    T := fun j => if j = k then fun _ => 0 else V.T j }
def store (V : MV) (k a n : Nat) (v : Int) : MV :=
  { V with B := fun j x => if j = k ∧ a ≤ x ∧ x < a + n then byteK v (x - a) else V.B j x }
def mark (V : MV) (k f n : Nat) (y : Int) : MV :=
  { V with T := fun j x => if j = k ∧ f ≤ x ∧ x < f + n then y else V.T j x }
/-- How many pages there are, together. -/
def tot (V : MV) : Int := pn (V.P 0) 64 + pn (V.P 1) 64 + pn (V.P 2) 64 + pn (V.P 3) 64
end MV

/-- How all processes see memory. -/
def vw (S : W4) : MV where
  lv := fun k => decide (k < 4) && (S k).live
  P := fun k q => decide (k < 4) && (atR (S k).L q).isSome
  B := fun k a => if k < 4 ∧ (atR (S k).L ((a / 64 : Nat) : Int)).isSome then (S k).B a else 0
  T := fun k a => if k < 4 ∧ (atR (S k).L ((a / 4 : Nat) : Int)).isSome then (S k).T a else 0

theorem MV.ext {V U : MV} (h1 : ∀ k, V.lv k = U.lv k) (h2 : ∀ k q, V.P k q = U.P k q) (h3 : ∀ k a, V.B k a = U.B k a) (h4 : ∀ k a, V.T k a = U.T k a) : V = U := by
  cases V; cases U
  congr 1
  · funext k; exact h1 k
  · funext k q; exact h2 k q
  · funext k a; exact h3 k a
  · funext k a; exact h4 k a

theorem vw_tot {S : W4} (h : Inv S) : (vw S).tot ≤ 64 := by
  have e : ∀ k, k < 4 → pn ((vw S).P k) 64 = cnt (S k).L 0 64 := fun k hk => by
    rw [cnt_all (h.1 k).good]
    exact pn_congr 64 (fun p _ => by simp [vw, hk])
  have := h.2
  unfold MV.tot
  rw [e 0 (by decide), e 1 (by decide), e 2 (by decide), e 3 (by decide)]
  exact this

/-- A process whose pages are as they were (its rights and keys may be others) is seen as it was. -/
theorem vw_same (S : W4) {k : Nat} {p : Pr} (hl : p.live = (S k).live) (hp : ∀ q, (atR p.L q).isSome = (atR (S k).L q).isSome) (hB : ∀ a, p.B a = (S k).B a) (hT : ∀ a, p.T a = (S k).T a) : vw (upd S k p) = vw S := by
  have key : ∀ j, (upd S k p j).live = (S j).live ∧ (∀ q, (atR (upd S k p j).L q).isSome = (atR (S j).L q).isSome) ∧ (∀ a, (upd S k p j).B a = (S j).B a) ∧ (∀ a, (upd S k p j).T a = (S j).T a) := fun j => by
    unfold upd
    split
    · rename_i h; subst h; exact ⟨hl, hp, hB, hT⟩
    · exact ⟨rfl, fun _ => rfl, fun _ => rfl, fun _ => rfl⟩
  refine MV.ext (fun j => ?_) (fun j q => ?_) (fun j a => ?_) (fun j a => ?_)
  · simp only [vw, (key j).1]
  · simp only [vw, (key j).2.1]
  · simp only [vw, (key j).2.1, (key j).2.2.1]
  · simp only [vw, (key j).2.1, (key j).2.2.2]

/-- Pages are taken. -/
theorem vw_cut (S : W4) {k : Nat} (hk : k < 4) {f t : Nat} {l : List R6} (h : ∀ q, atR l q = if iv f t q then none else atR (S k).L q) : vw (upd S k { S k with L := l }) = (vw S).cut k f t := by
  refine MV.ext (fun j => ?_) (fun j q => ?_) (fun j a => ?_) (fun j a => ?_)
  · by_cases hj : j = k
    · subst hj; simp [vw, MV.cut, upd]
    · simp [vw, MV.cut, upd, hj]
  · by_cases hj : j = k
    · subst hj
      simp only [vw, MV.cut, upd_at, h, iv_iff]
      by_cases h2 : (f : Int) ≤ q ∧ q < t
      · simp [h2]
      · simp [h2]
    · simp [vw, MV.cut, upd_ne hj, hj]
  · by_cases hj : j = k
    · subst hj
      simp only [vw, MV.cut, upd_at, h, iv_iff]
      by_cases h2 : f ≤ a / 64 ∧ a / 64 < t
      · have : (f : Int) ≤ ((a / 64 : Nat) : Int) ∧ ((a / 64 : Nat) : Int) < t := by omega
        rw [if_pos this]
        simp [h2]
      · have : ¬ ((f : Int) ≤ ((a / 64 : Nat) : Int) ∧ ((a / 64 : Nat) : Int) < t) := by omega
        rw [if_neg this]
        simp [h2]
    · simp [vw, MV.cut, upd_ne hj, hj]
  · by_cases hj : j = k
    · subst hj
      simp only [vw, MV.cut, upd_at, h, iv_iff]
      by_cases h2 : f ≤ a / 4 ∧ a / 4 < t
      · have : (f : Int) ≤ ((a / 4 : Nat) : Int) ∧ ((a / 4 : Nat) : Int) < t := by omega
        rw [if_pos this]
        simp [h2]
      · have : ¬ ((f : Int) ≤ ((a / 4 : Nat) : Int) ∧ ((a / 4 : Nat) : Int) < t) := by omega
        rw [if_neg this]
        simp [h2]
    · simp [vw, MV.cut, upd_ne hj, hj]

/-- A child sees what its parent sees. -/
theorem vw_fork (S : W4) {k c : Nat} (hk : k < 4) (hc : c < 4) (hl : (S k).live = true) : vw (upd S c (S k)) = (vw S).fork k c := by
  refine MV.ext (fun j => ?_) (fun j q => ?_) (fun j a => ?_) (fun j a => ?_)
  all_goals (by_cases hj : j = c)
  all_goals first
    | (subst hj; simp [vw, MV.fork, upd_at, hk, hc, hl])
    | simp [vw, MV.fork, upd_ne hj, hj]

theorem vw_exit (S : W4) (k : Nat) : vw (upd S k noP) = (vw S).exit k := by
  refine MV.ext (fun j => ?_) (fun j q => ?_) (fun j a => ?_) (fun j a => ?_)
  all_goals (by_cases hj : j = k)
  all_goals first
    | (subst hj; simp [vw, MV.exit, upd_at, noP, atR])
    | simp [vw, MV.exit, upd_ne hj, hj]

/-- New pages are empty: nothing is seen of them but that they are there. -/
theorem vw_map {S : W4} {k : Nat} {o : O12} (h : mapE S (S k) o = 0) :
    (∀ j, (vw (upd S k (mapP (S k) o))).lv j = (vw S).lv j) ∧ (∀ j q, (vw S).P j q = true → (vw (upd S k (mapP (S k) o))).P j q = true) ∧
      (∀ j a, (vw (upd S k (mapP (S k) o))).B j a = (vw S).B j a) ∧ (∀ j a, (vw (upd S k (mapP (S k) o))).T j a = (vw S).T j a) := by
  obtain ⟨⟨h0, h1, h2⟩, -, -, h4, h5, -⟩ := map_said h
  refine ⟨fun j => ?_, fun j q => ?_, fun j a => ?_, fun j a => ?_⟩
  all_goals (by_cases hj : j = k)
  · subst hj; simp [vw, upd_at, mapP]
  · simp [vw, upd_ne hj]
  · subst hj
    simp only [vw, upd_at, h5]
    intro hq
    rw [Bool.and_eq_true] at hq ⊢
    refine ⟨hq.1, ?_⟩
    split
    · rfl
    · exact hq.2
  · simp [vw, upd_ne hj]
  · subst hj
    simp only [vw, upd_at, h5, iv_iff]
    by_cases h2 : mapF (S j) o ≤ ((a / 64 : Nat) : Int) ∧ ((a / 64 : Nat) : Int) < mapF (S j) o + o.count
    · rw [if_pos h2, h4 _ (iv_iff.2 h2)]
      have h3 : mapF (S j) o * 64 ≤ (a : Int) ∧ (a : Int) < (mapF (S j) o + o.count) * 64 := by omega
      simp only [mapP, if_pos h3]
      simp
    · rw [if_neg h2]
      have h3 : ¬ (mapF (S j) o * 64 ≤ (a : Int) ∧ (a : Int) < (mapF (S j) o + o.count) * 64) := by omega
      simp only [mapP, if_neg h3]
  · simp [vw, upd_ne hj]
  · subst hj
    simp only [vw, upd_at, h5, iv_iff]
    by_cases h2 : mapF (S j) o ≤ ((a / 4 : Nat) : Int) ∧ ((a / 4 : Nat) : Int) < mapF (S j) o + o.count
    · rw [if_pos h2, h4 _ (iv_iff.2 h2)]
      have h3 : mapF (S j) o * 4 ≤ (a : Int) ∧ (a : Int) < (mapF (S j) o + o.count) * 4 := by omega
      simp only [mapP, if_pos h3]
      simp
    · rw [if_neg h2]
      have h3 : ¬ (mapF (S j) o * 4 ≤ (a : Int) ∧ (a : Int) < (mapF (S j) o + o.count) * 4) := by omega
      simp only [mapP, if_neg h3]
  · simp [vw, upd_ne hj]

/-- Bytes are stored in pages that are there. -/
theorem vw_store (S : W4) {k : Nat} (hk : k < 4) (a n : Nat) (v : Int) (h : ∀ x, a ≤ x → x < a + n → (atR (S k).L ((x / 64 : Nat) : Int)).isSome = true) :
    vw (upd S k { S k with B := fun x => if a ≤ x ∧ x < a + n then byteK v (x - a) else (S k).B x }) = (vw S).store k a n v := by
  refine MV.ext (fun j => ?_) (fun j q => ?_) (fun j x => ?_) (fun j x => ?_)
  all_goals (by_cases hj : j = k)
  all_goals first
    | (simp [vw, MV.store, upd_ne hj, hj]; done)
    | skip
  · subst hj; simp [vw, MV.store, upd_at]
  · subst hj; simp [vw, MV.store, upd_at]
  · subst hj
    simp only [vw, MV.store, upd_at]
    by_cases h2 : a ≤ x ∧ x < a + n
    · rw [if_pos ⟨hk, h x h2.1 h2.2⟩, if_pos h2, if_pos ⟨trivial, h2⟩]
    · simp [h2]
  · subst hj; simp [vw, MV.store, upd_at]

/-- Granules of pages that are there have a tag. -/
theorem vw_mark (S : W4) {k : Nat} (hk : k < 4) (a n : Nat) (y : Int) (h : ∀ x, a ≤ x → x < a + n → (atR (S k).L ((x / 4 : Nat) : Int)).isSome = true) :
    vw (upd S k { S k with T := fun x => if a ≤ x ∧ x < a + n then y else (S k).T x }) = (vw S).mark k a n y := by
  refine MV.ext (fun j => ?_) (fun j q => ?_) (fun j x => ?_) (fun j x => ?_)
  all_goals (by_cases hj : j = k)
  all_goals first
    | (simp [vw, MV.mark, upd_ne hj, hj]; done)
    | skip
  · subst hj; simp [vw, MV.mark, upd_at]
  · subst hj; simp [vw, MV.mark, upd_at]
  · subst hj; simp [vw, MV.mark, upd_at]
  · subst hj
    simp only [vw, MV.mark, upd_at]
    by_cases h2 : a ≤ x ∧ x < a + n
    · rw [if_pos ⟨hk, h x h2.1 h2.2⟩, if_pos h2, if_pos ⟨trivial, h2⟩]
    · simp [h2]

/-- One piece stored behind another one. -/
theorem store_next (V : MV) (k a m n : Nat) (v u : Int) (hu : ∀ i, i < n → byteK u i = byteK v (m + i)) : (V.store k a m v).store k (a + m) n u = V.store k a (m + n) v := by
  refine MV.ext (fun j => rfl) (fun j q => rfl) (fun j x => ?_) (fun j x => rfl)
  simp only [MV.store]
  by_cases hj : j = k
  · by_cases h1 : a + m ≤ x ∧ x < a + m + n
    · rw [if_pos ⟨hj, h1⟩, if_pos ⟨hj, by omega, by omega⟩, hu _ (by omega), show m + (x - (a + m)) = x - a by omega]
    · rw [if_neg (by omega)]
      by_cases h2 : a ≤ x ∧ x < a + m
      · rw [if_pos ⟨hj, h2⟩, if_pos ⟨hj, by omega, by omega⟩]
      · rw [if_neg (by omega), if_neg (by omega)]
  · rw [if_neg (by omega), if_neg (by omega), if_neg (by omega)]

theorem mark_next (V : MV) (k a m n : Nat) (y : Int) : (V.mark k a m y).mark k (a + m) n y = V.mark k a (m + n) y := by
  refine MV.ext (fun j => rfl) (fun j q => rfl) (fun j x => rfl) (fun j x => ?_)
  simp only [MV.mark]
  by_cases hj : j = k
  · by_cases h1 : a + m ≤ x ∧ x < a + m + n
    · rw [if_pos ⟨hj, h1⟩, if_pos ⟨hj, by omega, by omega⟩]
    · rw [if_neg (by omega)]
      by_cases h2 : a ≤ x ∧ x < a + m
      · rw [if_pos ⟨hj, h2⟩, if_pos ⟨hj, by omega, by omega⟩]
      · rw [if_neg (by omega), if_neg (by omega)]
  · rw [if_neg (by omega), if_neg (by omega), if_neg (by omega)]

theorem store_none (V : MV) (k a : Nat) (v : Int) : V.store k a 0 v = V := by
  refine MV.ext (fun j => rfl) (fun j q => rfl) (fun j x => ?_) (fun j x => rfl)
  simp only [MV.store]
  rw [if_neg (by omega)]

theorem mark_none (V : MV) (k a : Nat) (y : Int) : V.mark k a 0 y = V := by
  refine MV.ext (fun j => rfl) (fun j q => rfl) (fun j x => rfl) (fun j x => ?_)
  simp only [MV.mark]
  rw [if_neg (by omega)]

/-- The number that n bytes from f on are. -/
def numF (B : Nat → Int) (f : Nat) : Nat → Int
  | 0 => 0
  | k + 1 => numF B f k + B (f + k) * 256 ^ k

theorem numF_numB (p : Pr) (B : Nat → Int) (f : Nat) : ∀ n, (∀ i, i < n → B (f + i) = p.B (f + i)) → numF B f n = numB p f n
  | 0, _ => rfl
  | n + 1, h => by rw [numF, numB, numF_numB p B f n (fun i hi => h i (by omega)), h n (by omega)]

theorem numF_join (B : Nat → Int) (f m : Nat) : ∀ n, numF B f (m + n) = numF B f m + numF B (f + m) n * 256 ^ m
  | 0 => by simp [numF]
  | n + 1 => by
    rw [← Nat.add_assoc, numF, numF, numF_join B f m n, Int.add_mul, Nat.add_assoc f m n, Int.pow_add, Int.mul_assoc, Int.add_assoc, Int.mul_comm (256 ^ m) (256 ^ n)]

theorem numF_bd {B : Nat → Int} (f : Nat) : ∀ n, (∀ i, i < n → 0 ≤ B (f + i) ∧ B (f + i) ≤ 255) → 0 ≤ numF B f n ∧ numF B f n < 256 ^ n
  | 0, _ => by simp [numF]
  | n + 1, h => by
    have ih := numF_bd f n (fun i hi => h i (by omega))
    have hb := h n (by omega)
    rw [numF, Int.pow_succ]
    have hp : (0 : Int) < 256 ^ n := Int.pow_pos (by decide)
    have h1 : 0 ≤ B (f + n) * 256 ^ n := Int.mul_nonneg hb.1 (by omega)
    have h2 : B (f + n) * 256 ^ n ≤ 255 * 256 ^ n := Int.mul_le_mul_of_nonneg_right hb.2 (by omega)
    omega

end Go.Proofs.Ytbiipnojhjhejaa

/- Memory as package flat is handed it: what each of its calls makes of it, whichever memory it is. -/
namespace Go.Proofs.Ytbiipnojhjhejaa
set_option maxRecDepth 100000
open Go.RowKit
set_option linter.unusedSimpArgs false
set_option linter.unusedVariables false

/-- What a memory's call leaves as it was: all below lo, and all but rows of the types that it writes. -/
structure MK (lo : Nat) (wr : TypeId → Bool) (w w' : World) : Prop where
  os : w'.os = w.os
  tape : w'.tape = w.tape
  output : w'.output = w.output
  size : w.heap.size ≤ w'.heap.size
  same : ∀ h o, w.heap[h]? = some o → (h < lo ∨ ∀ c e fr, o = .cells c e fr → wr e = false) → w'.heap[h]? = some o

theorem MK.refl (lo : Nat) (wr : TypeId → Bool) (w : World) : MK lo wr w w := ⟨rfl, rfl, rfl, Nat.le_refl _, fun _ _ h _ => h⟩
theorem MK.trans {lo : Nat} {wr : TypeId → Bool} {a b c : World} (h : MK lo wr a b) (k : MK lo wr b c) : MK lo wr a c :=
  ⟨k.os.trans h.os, k.tape.trans h.tape, k.output.trans h.output, Nat.le_trans h.size k.size, fun i o hi hc => k.same i o (h.same i o hi hc) hc⟩
theorem MK.of_below {lo : Nat} {wr : TypeId → Bool} {w w' : World} (h : Below w.heap.size w w') : MK lo wr w w' :=
  ⟨h.os, h.tape, h.output, h.size, fun i o hi _ => (h.block i (Array.getElem?_eq_some_iff.1 hi).1).trans hi⟩
theorem MK.drew {lo : Nat} {wr : TypeId → Bool} {w w' : World} (h : MK lo wr w w') : MK lo wr w w'.drew := h.trans (MK.of_below (Below.refl _ _).drew)
theorem MK.row {lo : Nat} {wr : TypeId → Bool} {w w' : World} (h : MK lo wr w w') {g : Nat} {e : TypeId} {xs : List Value} (hr : OwnRow w g e xs) (he : wr e = false) : OwnRow w' g e xs :=
  h.same g _ hr (Or.inr fun c e' fr hc => by cases hc; exact he)
theorem MK.ownR {α : Type} {m : Nat} {enc : α → List Value} {lo : Nat} {wr : TypeId → Bool} {w w' : World} (h : MK lo wr w w') {base : Nat} {e : TypeId} {v : Value} {l : List α} (hr : OwnR e m enc base w v l) (he : wr e = false) : OwnR e m enc base w' v l := by
  obtain ⟨h1, h2 | ⟨g, cap, cur, rfl, hbg, hg, hh⟩⟩ := hr
  · exact ⟨h1, Or.inl h2⟩
  · exact ⟨h1, Or.inr ⟨g, cap, cur, rfl, hbg, h.same g _ hg (Or.inr fun c e' fr hc => by cases hc; exact he), hh⟩⟩
/-- What writes block g alone, a row of a type that is written. -/
theorem MK.of_spare {lo : Nat} {wr : TypeId → Bool} {g : Nat} {w w' : World} (h : Spare g w w') (hl : lo ≤ g) {e : TypeId} {xs : List Value} (hr : OwnRow w g e xs) (he : wr e = true) : MK lo wr w w' := by
  refine ⟨h.2.2.1, h.2.2.2.1, h.2.2.2.2, h.1, fun i o hi hc => ?_⟩
  by_cases hig : i = g
  · subst hig
    rw [show w.heap[i]? = _ from hr] at hi
    cases hi
    rcases hc with hc | hc
    · omega
    · rw [hc _ _ _ rfl] at he; cases he
  · exact (h.2.1 i (Array.getElem?_eq_some_iff.1 hi).1 hig).trans hi
theorem MK.keepsOthers {lo : Nat} {wr : TypeId → Bool} {w w' : World} (h : MK lo wr w w') : KeepsOthers w w' :=
  ⟨h.size, fun k o hk hc => h.same k o hk (Or.inr fun c e fr he => by rw [he] at hc; cases hc)⟩
theorem MK.to_below {lo B : Nat} {wr : TypeId → Bool} {w w' : World} (h : MK lo wr w w') (hB : B ≤ lo) (hs : B ≤ w.heap.size) : Below B w w' :=
  ⟨h.os, h.tape, h.output, h.size, fun k hk => by
    have hlt : k < w.heap.size := by omega
    rw [h.same k _ (Array.getElem?_eq_getElem hlt) (Or.inl (by omega)), Array.getElem?_eq_getElem hlt]⟩

theorem WOK.byMK {mv : Value} {base g : Nat} {w w' : World} {S : W4} (h : WOK mv base g w S) {lo : Nat} {wr : TypeId → Bool} (hm : MK lo wr w w') (h1 : wr 91 = false) (h2 : wr 50 = false) : WOK mv base g w' S := by
  obtain ⟨ha, hb, xs, h3, h4, h40, h5⟩ := h
  refine ⟨ha, Nat.le_trans hb hm.size, xs, hm.row h3 h1, h4, h40, fun k hk => ?_⟩
  obtain ⟨v, hv, ho⟩ := h5 k hk
  exact ⟨v, hv, hm.ownR ho h2⟩

theorem WOK.mem {mv : Value} {base g : Nat} {w : World} {S : W4} (h : WOK mv base g w S) : w.cell? ⟨g, 40, none⟩ = some mv := by
  obtain ⟨h1, h2, xs, h3, h4, h40, h5⟩ := h
  rw [h3.cell]; exact h40

/-- What a memory that is seen has: numbers that are bytes and tags, and no more pages than there may be. -/
structure VG (V : MV) : Prop where
  byt : ∀ k a, 0 ≤ V.B k a ∧ V.B k a ≤ 255
  tag : ∀ k a, 0 ≤ V.T k a ∧ V.T k a ≤ 15
  tot : V.tot ≤ 64

theorem vw_good {S : W4} (h : Inv S) : VG (vw S) :=
  ⟨fun k a => by unfold vw; dsimp only; split <;> first | exact (h.1 k).byt a | omega, fun k a => by unfold vw; dsimp only; split <;> first | exact (h.1 k).tag a | omega, vw_tot h⟩

theorem VG.store {V : MV} (h : VG V) (k a n : Nat) (v : Int) : VG (V.store k a n v) :=
  ⟨fun j x => by unfold MV.store; dsimp only; split <;> first | exact byteK_bd _ _ | exact h.byt j x, h.tag, h.tot⟩
theorem VG.mark {V : MV} (h : VG V) (k a n : Nat) {y : Int} (h0 : 0 ≤ y) (h1 : y ≤ 15) : VG (V.mark k a n y) :=
  ⟨h.byt, fun j x => by unfold MV.mark; dsimp only; split <;> first | exact ⟨h0, h1⟩ | exact h.tag j x, h.tot⟩

/-- The tags of granules f to f + n - 1, as they are seen. -/
def tgV (V : MV) (k f n : Nat) : List Int := (List.range n).map fun i => V.T k (f + i)

/-- A memory: where it lies, what its calls are, what they make of it (s: what it is; V: how it is seen). -/
structure Mem (σ : Type) where
  pm : Addr
  mty : TypeId
  lo : Nat
  wr : TypeId → Bool
  dep : TypeId → Bool
  ok : World → σ → Prop
  R : σ → MV → Prop
  fCut : FuncId
  fFork : FuncId
  fExit : FuncId
  fRecl : FuncId
  fLoad : FuncId
  fStore : FuncId
  fTags : FuncId
  fMark : FuncId
  sCut : σ → Nat → Nat → Nat → σ
  sFork : σ → Nat → Nat → σ
  sExit : σ → Nat → σ
  sRecl : σ → Int → σ
  sLoad : σ → Nat → Nat → Nat → σ
  sStore : σ → Nat → Nat → Nat → Int → σ
  sTags : σ → Nat → Nat → Nat → σ
  sMark : σ → Nat → Nat → Nat → Int → σ
  hm : ∀ w : World, (method 272 mty (.pointer (some pm)) "Cut").run Try.prog w = .ok (fCut, .pointer (some pm)) w ∧ (method 272 mty (.pointer (some pm)) "Fork").run Try.prog w = .ok (fFork, .pointer (some pm)) w ∧
    (method 272 mty (.pointer (some pm)) "Exit").run Try.prog w = .ok (fExit, .pointer (some pm)) w ∧ (method 272 mty (.pointer (some pm)) "Reclaim").run Try.prog w = .ok (fRecl, .pointer (some pm)) w ∧
    (method 272 mty (.pointer (some pm)) "Load").run Try.prog w = .ok (fLoad, .pointer (some pm)) w ∧ (method 272 mty (.pointer (some pm)) "Store").run Try.prog w = .ok (fStore, .pointer (some pm)) w ∧
    (method 272 mty (.pointer (some pm)) "Tags").run Try.prog w = .ok (fTags, .pointer (some pm)) w ∧ (method 272 mty (.pointer (some pm)) "Mark").run Try.prog w = .ok (fMark, .pointer (some pm)) w
  hf : ∀ (args : Array Value) (w : World), (callFunc fCut args).run Try.prog w = .ok (.enter fCut args) w ∧ (callFunc fFork args).run Try.prog w = .ok (.enter fFork args) w ∧ (callFunc fExit args).run Try.prog w = .ok (.enter fExit args) w ∧ (callFunc fRecl args).run Try.prog w = .ok (.enter fRecl args) w ∧ (callFunc fLoad args).run Try.prog w = .ok (.enter fLoad args) w ∧ (callFunc fStore args).run Try.prog w = .ok (.enter fStore args) w ∧ (callFunc fTags args).run Try.prog w = .ok (.enter fTags args) w ∧ (callFunc fMark args).run Try.prog w = .ok (.enter fMark args) w
  hwr : wr 91 = false ∧ wr 50 = false ∧ wr 24 = false ∧ wr 40 = false ∧ wr 3 = false ∧ wr 48 = false ∧ wr 72 = false
  hdep : dep 91 = false ∧ dep 40 = false ∧ dep 3 = false
  frame : ∀ {w w' : World} {s : σ}, ok w s → w.heap.size ≤ w'.heap.size → (∀ h c e fr, w.heap[h]? = some (.cells c e fr) → lo ≤ h → dep e = true → w'.heap[h]? = some (.cells c e fr)) → ok w' s
  grow : ∀ {s : σ} {V U : MV}, R s V → (∀ j, U.lv j = V.lv j) → (∀ j q, V.P j q = true → U.P j q = true) → (∀ j a, U.B j a = V.B j a) → (∀ j a, U.T j a = V.T j a) → VG U → R s U
  cut : ∀ {s : σ} {V : MV} {k f t : Nat} {w : World}, ok w s → R s V → VG V → k < 4 → V.lv k = true → f < t → t ≤ 64 → R (sCut s k f t) (V.cut k f t) ∧
    Calls Try.prog fCut #[.pointer (some pm), .int .i64 k, .int .i64 f, .int .i64 t] w fun e w' => (∃ v, e = .returned v) ∧ ok w' (sCut s k f t) ∧ MK lo wr w w'
  fork : ∀ {s : σ} {V : MV} {k c : Nat} {w : World}, ok w s → R s V → VG V → k < 4 → c < 4 → V.lv k = true → V.lv c = false → VG (V.fork k c) → R (sFork s k c) (V.fork k c) ∧
    Calls Try.prog fFork #[.pointer (some pm), .int .i64 k, .int .i64 c] w fun e w' => (∃ v, e = .returned v) ∧ ok w' (sFork s k c) ∧ MK lo wr w w'
  exit : ∀ {s : σ} {V : MV} {k : Nat} {w : World}, ok w s → R s V → VG V → k < 4 → V.lv k = true → R (sExit s k) (V.exit k) ∧
    Calls Try.prog fExit #[.pointer (some pm), .int .i64 k] w fun e w' => (∃ v, e = .returned v) ∧ ok w' (sExit s k) ∧ MK lo wr w w'
  recl : ∀ {s : σ} {V : MV} {n : Int} {w : World}, ok w s → R s V → VG V → bdI n → R (sRecl s n) V ∧
    Calls Try.prog fRecl #[.pointer (some pm), .int .i64 n] w fun e w' => (∃ v, e = .returned v) ∧ ok w' (sRecl s n) ∧ MK lo wr w w'
  load : ∀ {s : σ} {V : MV} {k a n : Nat} {w : World}, ok w s → R s V → VG V → k < 4 → V.lv k = true → a < 4096 → 1 ≤ n → n ≤ 4 → a % 64 + n ≤ 64 → V.P k ((a / 64 : Nat) : Int) = true → R (sLoad s k a n) V ∧
    Calls Try.prog fLoad #[.pointer (some pm), .int .i64 k, .int .i64 a, .int .i64 n] w fun e w' => e = .returned (.int .i64 (numF (V.B k) a n)) ∧ ok w' (sLoad s k a n) ∧ MK lo wr w w'
  store : ∀ {s : σ} {V : MV} {k a n : Nat} {v : Int} {w : World}, ok w s → R s V → VG V → k < 4 → V.lv k = true → a < 4096 → 1 ≤ n → n ≤ 4 → a % 64 + n ≤ 64 → V.P k ((a / 64 : Nat) : Int) = true → R (sStore s k a n v) (V.store k a n v) ∧
    Calls Try.prog fStore #[.pointer (some pm), .int .i64 k, .int .i64 a, .int .i64 n, .int .i64 v] w fun e w' => (∃ v, e = .returned v) ∧ ok w' (sStore s k a n v) ∧ MK lo wr w w'
  tags : ∀ {s : σ} {V : MV} {k f n : Nat} {w : World}, ok w s → R s V → VG V → k < 4 → V.lv k = true → f < 256 → 1 ≤ n → f % 4 + n ≤ 4 → V.P k ((f / 4 : Nat) : Int) = true → R (sTags s k f n) V ∧
    Calls Try.prog fTags #[.pointer (some pm), .int .i64 k, .int .i64 f, .int .i64 n] w fun e w' => ∃ a c, e = .returned (.slice a n c) ∧ IsInts w' (.slice a n c) (tgV V k f n) ∧ ok w' (sTags s k f n) ∧ MK lo wr w w'
  mark : ∀ {s : σ} {V : MV} {k f n : Nat} {y : Int} {w : World}, ok w s → R s V → VG V → k < 4 → V.lv k = true → f < 256 → 1 ≤ n → f % 4 + n ≤ 4 → V.P k ((f / 4 : Nat) : Int) = true → 0 ≤ y → y ≤ 15 → R (sMark s k f n y) (V.mark k f n y) ∧
    Calls Try.prog fMark #[.pointer (some pm), .int .i64 k, .int .i64 f, .int .i64 n, .int .i64 y] w fun e w' => (∃ v, e = .returned v) ∧ ok w' (sMark s k f n y) ∧ MK lo wr w w'

variable {σ : Type}

/-- The memory as a value behind the interface. -/
def Mem.mv (M : Mem σ) : Value := .iface M.mty (.pointer (some M.pm))

theorem Mem.below (M : Mem σ) {w w' : World} {s : σ} (h : M.ok w s) (hb : Below w.heap.size w w') : M.ok w' s :=
  M.frame h hb.size fun i c e fr hi _ _ => (hb.block i (Array.getElem?_eq_some_iff.1 hi).1).trans hi

/-- What writes processes alone leaves memory. -/
theorem Mem.spare (M : Mem σ) {g : Nat} {w w' : World} {s : σ} (h : M.ok w s) (hs : Spare g w w') {e : TypeId} {xs : List Value} (hr : OwnRow w g e xs) (he : M.dep e = false) : M.ok w' s :=
  M.frame h hs.1 fun i c e' fr hi _ hd => by
    by_cases hig : i = g
    · subst hig
      rw [show w.heap[i]? = _ from hr] at hi
      cases hi
      rw [he] at hd; cases hd
    · exact (hs.2.1 i (Array.getElem?_eq_some_iff.1 hi).1 hig).trans hi

/-- Processes, and the memory behind them: seen as processes have it. -/
structure WM (M : Mem σ) (base g : Nat) (w : World) (S : W4) (s : σ) : Prop where
  wok : WOK M.mv base g w S
  ok : M.ok w s
  rel : M.R s (vw S)

theorem WM.below {M : Mem σ} {base g : Nat} {w w' : World} {S : W4} {s : σ} (h : WM M base g w S s) (hb : Below w.heap.size w w') : WM M base g w' S s :=
  ⟨h.wok.below hb, M.below h.ok hb, h.rel⟩

/-- What is left as it was, when processes and their memory are worked at. -/
structure MKg (M : Mem σ) (g : Nat) (w w' : World) : Prop where
  os : w'.os = w.os
  tape : w'.tape = w.tape
  output : w'.output = w.output
  size : w.heap.size ≤ w'.heap.size
  same : ∀ h o, w.heap[h]? = some o → h ≠ g → (h < M.lo ∨ ∀ c e fr, o = .cells c e fr → M.wr e = false) → w'.heap[h]? = some o

theorem MKg.refl (M : Mem σ) (g : Nat) (w : World) : MKg M g w w := ⟨rfl, rfl, rfl, Nat.le_refl _, fun _ _ h _ _ => h⟩
theorem MKg.trans {M : Mem σ} {g : Nat} {a b c : World} (h : MKg M g a b) (k : MKg M g b c) : MKg M g a c :=
  ⟨k.os.trans h.os, k.tape.trans h.tape, k.output.trans h.output, Nat.le_trans h.size k.size, fun i o hi hn hc => k.same i o (h.same i o hi hn hc) hn hc⟩
theorem MKg.of_spare {M : Mem σ} {g : Nat} {w w' : World} (h : Spare g w w') : MKg M g w w' :=
  ⟨h.2.2.1, h.2.2.2.1, h.2.2.2.2, h.1, fun i o hi hn _ => (h.2.1 i (Array.getElem?_eq_some_iff.1 hi).1 hn).trans hi⟩
theorem MKg.of_below {M : Mem σ} {g : Nat} {w w' : World} (h : Below w.heap.size w w') : MKg M g w w' := MKg.of_spare (Spare.of_below h)
theorem MKg.of_mk {M : Mem σ} {g : Nat} {w w' : World} (h : MK M.lo M.wr w w') : MKg M g w w' := ⟨h.os, h.tape, h.output, h.size, fun i o hi _ hc => h.same i o hi hc⟩
theorem MKg.row {M : Mem σ} {g : Nat} {w w' : World} (h : MKg M g w w') {b : Nat} {e : TypeId} {xs : List Value} (hr : OwnRow w b e xs) (hb : b ≠ g) (he : M.wr e = false) : OwnRow w' b e xs :=
  h.same b _ hr hb (Or.inr fun c e' fr hc => by cases hc; exact he)
theorem MKg.to_below {M : Mem σ} {g B : Nat} {w w' : World} (h : MKg M g w w') (hB : B ≤ M.lo) (hs : B ≤ w.heap.size) (hg : B ≤ g) : Below B w w' :=
  ⟨h.os, h.tape, h.output, h.size, fun k hk => by
    have hlt : k < w.heap.size := by omega
    rw [h.same k _ (Array.getElem?_eq_getElem hlt) (by omega) (Or.inl (by omega)), Array.getElem?_eq_getElem hlt]⟩

end Go.Proofs.Ytbiipnojhjhejaa

/- Memory of nothing: its cells. -/
namespace Go.Proofs.Ytbiipnojhjhejaa
set_option maxRecDepth 100000
open Go.RowKit
set_option linter.unusedSimpArgs false
set_option linter.unusedVariables false

def isU0 : Value → Bool
  | .int .u8 0 => true
  | _ => false
def isI0 : Value → Bool
  | .int .i64 0 => true
  | _ => false
def isF0 : Value → Bool
  | .bool false => true
  | _ => false
def isN0 : Value → Bool
  | .slice none 0 0 => true
  | _ => false

theorem u0_eq {v : Value} (h : isU0 v = true) : v = .int .u8 0 := by
  unfold isU0 at h
  split at h
  · rfl
  · cases h
theorem i0_eq {v : Value} (h : isI0 v = true) : v = .int .i64 0 := by
  unfold isI0 at h
  split at h
  · rfl
  · cases h
theorem f0_eq {v : Value} (h : isF0 v = true) : v = .bool false := by
  unfold isF0 at h
  split at h
  · rfl
  · cases h
theorem n0_eq {v : Value} (h : isN0 v = true) : v = .slice none 0 0 := by
  unfold isN0 at h
  split at h
  · rfl
  · cases h

/-- n cells that each meet p, and the rest. -/
def chk (p : Value → Bool) : Nat → List Value → Option (List Value)
  | 0, l => some l
  | _ + 1, [] => none
  | n + 1, v :: r => if p v then chk p n r else none

theorem chk_get {p : Value → Bool} : ∀ {n : Nat} {l r : List Value}, chk p n l = some r → (∀ i, i < n → ∃ v, l[i]? = some v ∧ p v = true) ∧ ∀ i, l[n + i]? = r[i]?
  | 0, l, r, h => by
    cases h
    exact ⟨fun i hi => absurd hi (Nat.not_lt_zero i), fun i => by rw [Nat.zero_add]⟩
  | n + 1, [], r, h => by cases h
  | n + 1, v :: l, r, h => by
    rw [chk] at h
    split at h
    · rename_i hv
      obtain ⟨h1, h2⟩ := chk_get h
      refine ⟨fun i hi => ?_, fun i => ?_⟩
      · cases i with
        | zero => exact ⟨v, rfl, hv⟩
        | succ i => exact h1 i (by omega)
      · rw [show n + 1 + i = (n + i) + 1 by omega]
        exact h2 i
    · cases h

/-- A process's memory of nothing at the head of the list, and the rest. -/
def chkV (l : List Value) : Option (List Value) := (chk isU0 4096 l).bind fun a => chk isI0 256 a

theorem zero_v : Try.zeroCells69.size = 4352 ∧ chkV Try.zeroCells69.toList = some [] := ⟨by kernel_rfl, by kernel_rfl⟩
theorem zero_pl : Try.zeroCells71.size = 17408 ∧ ((chkV Try.zeroCells71.toList).bind fun a => (chkV a).bind fun a => (chkV a).bind fun a => chkV a) = some [] := ⟨by kernel_rfl, by kernel_rfl⟩

/-- Bytes and tags of one process from place off on. -/
structure VC (xs : List Value) (off : Nat) (B T : Nat → Int) : Prop where
  byt : ∀ a, a < 4096 → xs[off + a]? = some (.int .u8 (B a))
  tag : ∀ t, t < 256 → xs[off + 4096 + t]? = some (.int .i64 (T t))

theorem VC.one {xs : List Value} {off : Nat} {B T : Nat → Int} (h : VC xs off B T) {j : Nat} (hj : j < 4352) {u : Value} (hu : xs[off + j]? = some u) : u.oneCell' = true := by
  by_cases h1 : j < 4096
  · rw [h.byt j h1] at hu; cases hu; rfl
  · have := h.tag (j - 4096) (by omega)
    rw [show off + 4096 + (j - 4096) = off + j by omega, hu] at this
    cases this; rfl

theorem VC.move {xs ys : List Value} {a b : Nat} {B T : Nat → Int} (h : VC xs a B T) (he : ∀ j, j < 4352 → ys[b + j]? = xs[a + j]?) : VC ys b B T :=
  ⟨fun i hi => by rw [he i (by omega)]; exact h.byt i hi, fun i hi => by rw [Nat.add_assoc, he (4096 + i) (by omega), ← Nat.add_assoc]; exact h.tag i hi⟩

theorem chkV_vc {l r : List Value} (h : chkV l = some r) : VC l 0 (fun _ => 0) (fun _ => 0) ∧ ∀ i, l[4352 + i]? = r[i]? := by
  unfold chkV at h
  simp only [Option.bind_eq_some_iff] at h
  obtain ⟨l1, h1, h2⟩ := h
  obtain ⟨g1, n1⟩ := chk_get h1
  obtain ⟨g2, n2⟩ := chk_get h2
  refine ⟨⟨fun a ha => ?_, fun t ht => ?_⟩, fun i => by rw [show 4352 + i = 4096 + (256 + i) by omega, n1, n2]⟩
  · obtain ⟨v, hv, hp⟩ := g1 a ha
    rw [Nat.zero_add, hv, u0_eq hp]
  · obtain ⟨v, hv, hp⟩ := g2 t ht
    rw [Nat.zero_add, n1, hv, i0_eq hp]

theorem chk4_vc {l : List Value} (h : ((chkV l).bind fun a => (chkV a).bind fun a => (chkV a).bind fun a => chkV a) = some []) : ∀ k, k < 4 → VC l (k * 4352) (fun _ => 0) (fun _ => 0) := by
  simp only [Option.bind_eq_some_iff] at h
  obtain ⟨l1, h1, l2, h2, l3, h3, h4⟩ := h
  obtain ⟨p1, n1⟩ := chkV_vc h1
  obtain ⟨p2, n2⟩ := chkV_vc h2
  obtain ⟨p3, n3⟩ := chkV_vc h3
  obtain ⟨p4, n4⟩ := chkV_vc h4
  have m2 : ∀ i, l[8704 + i]? = l2[i]? := fun i => by rw [show 8704 + i = 4352 + (4352 + i) by omega, n1, n2]
  have m3 : ∀ i, l[13056 + i]? = l3[i]? := fun i => by rw [show 13056 + i = 8704 + (4352 + i) by omega, m2, n3]
  intro k hk
  match k, hk with
  | 0, _ => rw [Nat.zero_mul]; exact p1
  | 1, _ => exact p2.move (fun j hj => by rw [Nat.zero_add, Nat.one_mul]; exact n1 j)
  | 2, _ => exact p3.move (fun j hj => by rw [Nat.zero_add]; exact m2 j)
  | 3, _ => exact p4.move (fun j hj => by rw [Nat.zero_add]; exact m3 j)

theorem all_one4 {l : List Value} (h : ∀ k, k < 4 → ∃ B T, VC l (k * 4352) B T) (hl : l.length = 17408) : ∀ v ∈ l, v.oneCell' = true := fun v hv => by
  obtain ⟨j, hj, he⟩ := List.getElem_of_mem hv
  obtain ⟨B, T, hk⟩ := h (j / 4352) (by omega)
  refine hk.one (j := j % 4352) (by omega) ?_
  rw [show j / 4352 * 4352 + j % 4352 = j by omega, List.getElem?_eq_getElem hj, he]

end Go.Proofs.Ytbiipnojhjhejaa

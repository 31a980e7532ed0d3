/- Processes as they lie in memory: one variable that holds four of them, one behind the other; what reading and writing of its cells makes of them. -/
import Derived.Test.YtlhmfbkpmfofiaiFlatMath
import Derived.Test.YtlhmfbkpmfofiaiJReg1
import Derived.Test.YtlhmfbkpmfofiaiJReg3
import Derived.Test.YtlhmfbkpmfofiaiPlace2
import Derived.Test.YtlhmfbkpmfofiaiKeys2
import Derived.Test.YtlhmfbkpmfofiaiBytes
import Derived.Deep.MidRow
import Derived.Deep.WholeRow
namespace Go.Proofs.Ytlhmfbkpmfofiai
set_option maxRecDepth 100000
open Go.RowKit
set_option linter.unusedSimpArgs false
set_option linter.unusedVariables false

/-- Four keys as cells. -/
def k8L (l : K8) : List Value := [.bool l.1, .int .i64 l.2.1, .bool l.2.2.1, .int .i64 l.2.2.2.1, .bool l.2.2.2.2.1, .int .i64 l.2.2.2.2.2.1, .bool l.2.2.2.2.2.2.1, .int .i64 l.2.2.2.2.2.2.2]

/-- A process's cells from place off on: v is its regions' slice. -/
structure PC (xs : List Value) (off : Nat) (p : Pr) (v : Value) : Prop where
  live : xs[off]? = some (.bool p.live)
  regs : xs[off + 1]? = some v
  keys : ∀ i, i < 8 → xs[off + 2 + i]? = (k8L p.K)[i]?
  byts : ∀ a, a < 4096 → xs[off + 10 + a]? = some (.int .u8 (p.B a))
  tags : ∀ t, t < 256 → xs[off + 4106 + t]? = some (.int .i64 (p.T t))

theorem spl_get {xs vs : List Value} {o : Nat} (h : o + vs.length ≤ xs.length) (j : Nat) : (spl xs o vs)[j]? = if o ≤ j ∧ j < o + vs.length then vs[j - o]? else xs[j]? := by
  unfold spl
  by_cases h1 : j < o
  · rw [if_neg (by omega), List.append_assoc, List.getElem?_append_left (by rw [List.length_take]; omega), List.getElem?_take_of_lt h1]
  · by_cases h2 : j < o + vs.length
    · rw [if_pos ⟨by omega, h2⟩, List.append_assoc, List.getElem?_append_right (by rw [List.length_take]; omega), List.length_take, Nat.min_eq_left (by omega), List.getElem?_append_left (by omega)]
    · rw [if_neg (by omega), List.getElem?_append_right (by rw [List.length_append, List.length_take]; omega), List.length_append, List.length_take, Nat.min_eq_left (by omega), List.getElem?_drop]
      congr 1
      omega

/-- Cells elsewhere are written. -/
theorem PC.spl {xs : List Value} {off : Nat} {p : Pr} {v : Value} (h : PC xs off p v) {o : Nat} {vs : List Value} (hl : o + vs.length ≤ xs.length) (ha : o + vs.length ≤ off ∨ off + 4362 ≤ o) : PC (spl xs o vs) off p v := by
  refine ⟨?_, ?_, fun i hi => ?_, fun a h1 => ?_, fun t h1 => ?_⟩
  · rw [spl_get hl, if_neg (by omega)]; exact h.live
  · rw [spl_get hl, if_neg (by omega)]; exact h.regs
  · rw [spl_get hl, if_neg (by omega)]; exact h.keys i hi
  · rw [spl_get hl, if_neg (by omega)]; exact h.byts a h1
  · rw [spl_get hl, if_neg (by omega)]; exact h.tags t h1

theorem ownR_setCells {e : TypeId} {α : Type} {m : Nat} {enc : α → List Value} {base g : Nat} {w : World} {v : Value} {l : List α} (h : OwnR e m enc base w v l) (hg : g < base) (o : Nat) (vs : List Value) : OwnR e m enc base (w.setCells g o vs) v l := by
  obtain ⟨h1, h2 | ⟨g', cap, cur, rfl, hbg, hg', hr⟩⟩ := h
  · exact ⟨h1, Or.inl h2⟩
  · exact ⟨h1, Or.inr ⟨g', cap, cur, rfl, hbg, (heap_setCells_other (by omega) vs o w).trans hg', hr⟩⟩

/-- Block g is four processes; their regions lie in rows that were made behind base. -/
structure WOK (base g : Nat) (w : World) (S : W4) : Prop where
  lt : g < base
  le : base ≤ w.heap.size
  row : ∃ xs, OwnRow w g 68 xs ∧ xs.length = 17448 ∧ ∀ k, k < 4 → ∃ v, PC xs (k * 4362) (S k) v ∧ OwnR 46 6 encR base w v (S k).L

theorem WOK.below {base g : Nat} {w w' : World} {S : W4} (h : WOK base g w S) (hb : Below w.heap.size w w') : WOK base g w' S := by
  obtain ⟨h1, h2, xs, h3, h4, h5⟩ := h
  refine ⟨h1, Nat.le_trans h2 hb.size, xs, h3.below hb h3.lt, h4, fun k hk => ?_⟩
  obtain ⟨v, hv, ho⟩ := h5 k hk
  exact ⟨v, hv, ho.below hb⟩

/-- Cells of process k are written. -/
theorem WOK.splice {base g : Nat} {w : World} {S : W4} (h : WOK base g w S) {k : Nat} (hk : k < 4) {i : Nat} {vs : List Value} (hi : i + vs.length ≤ 4362) {p' : Pr}
    (hp : ∀ xs v, k * 4362 + i + vs.length ≤ xs.length → PC xs (k * 4362) (S k) v → OwnR 46 6 encR base w v (S k).L → ∃ v', PC (spl xs (k * 4362 + i) vs) (k * 4362) p' v' ∧ OwnR 46 6 encR base w v' p'.L) :
    WOK base g (w.setCells g (k * 4362 + i) vs) (upd S k p') := by
  obtain ⟨h1, h2, xs, h3, h4, h5⟩ := h
  have hl : k * 4362 + i + vs.length ≤ xs.length := by omega
  refine ⟨h1, by rw [size_setCells]; exact h2, _, h3.setCells vs _ _ _ hl, by rw [spl_len hl]; exact h4, fun j hj => ?_⟩
  by_cases hjk : j = k
  · subst hjk
    obtain ⟨v, hv, ho⟩ := h5 j hj
    obtain ⟨v', hv', ho'⟩ := hp xs v hl hv ho
    rw [upd_at]
    exact ⟨v', hv', ownR_setCells ho' h1 _ _⟩
  · obtain ⟨v, hv, ho⟩ := h5 j hj
    rw [upd_ne hjk]
    exact ⟨v, hv.spl hl (by omega), ownR_setCells ho h1 _ _⟩

/-! What is read. -/
theorem WOK.live {base g : Nat} {w : World} {S : W4} (h : WOK base g w S) {k : Nat} (hk : k < 4) : w.cell? ⟨g, k * 4362, none⟩ = some (.bool (S k).live) := by
  obtain ⟨h1, h2, xs, h3, h4, h5⟩ := h
  obtain ⟨v, hv, ho⟩ := h5 k hk
  rw [h3.cell]; exact hv.live

theorem WOK.regs {base g : Nat} {w : World} {S : W4} (h : WOK base g w S) {k : Nat} (hk : k < 4) :
    ∃ a cap, w.cell? ⟨g, k * 4362 + 1, none⟩ = some (.slice a (S k).L.length cap) ∧ OwnR 46 6 encR base w (.slice a (S k).L.length cap) (S k).L := by
  obtain ⟨h1, h2, xs, h3, h4, h5⟩ := h
  obtain ⟨v, hv, ho⟩ := h5 k hk
  obtain ⟨a, cap, rfl⟩ := ho.form
  exact ⟨a, cap, by rw [h3.cell]; exact hv.regs, ho⟩

theorem WOK.byte {base g : Nat} {w : World} {S : W4} (h : WOK base g w S) {k : Nat} (hk : k < 4) {a : Nat} (ha : a < 4096) : w.cell? ⟨g, k * 4362 + 10 + a, none⟩ = some (.int .u8 ((S k).B a)) := by
  obtain ⟨h1, h2, xs, h3, h4, h5⟩ := h
  obtain ⟨v, hv, ho⟩ := h5 k hk
  rw [h3.cell]; exact hv.byts a ha

theorem WOK.tag {base g : Nat} {w : World} {S : W4} (h : WOK base g w S) {k : Nat} (hk : k < 4) {t : Nat} (ht : t < 256) : w.cell? ⟨g, k * 4362 + 4106 + t, none⟩ = some (.int .i64 ((S k).T t)) := by
  obtain ⟨h1, h2, xs, h3, h4, h5⟩ := h
  obtain ⟨v, hv, ho⟩ := h5 k hk
  rw [h3.cell]; exact hv.tags t ht

theorem WOK.free {base g : Nat} {w : World} {S : W4} (h : WOK base g w S) (i : Nat) : w.frozen? ⟨g, i, none⟩ = false := by
  obtain ⟨h1, h2, xs, h3, h4, h5⟩ := h
  exact h3.free i

theorem WOK.glt {base g : Nat} {w : World} {S : W4} (h : WOK base g w S) : g < w.heap.size := Nat.lt_of_lt_of_le h.lt h.le

theorem WOK.keys {base g : Nat} {w : World} {S : W4} (h : WOK base g w S) {k : Nat} (hk : k < 4) :
    (w.cell? ⟨g, k * 4362 + 2, none⟩ = some (.bool (S k).K.1) ∧ w.cell? ⟨g, k * 4362 + 2 + 1, none⟩ = some (.int .i64 (S k).K.2.1) ∧
    w.cell? ⟨g, k * 4362 + 2 + 2, none⟩ = some (.bool (S k).K.2.2.1) ∧ w.cell? ⟨g, k * 4362 + 2 + 3, none⟩ = some (.int .i64 (S k).K.2.2.2.1)) ∧
    w.cell? ⟨g, k * 4362 + 2 + 4, none⟩ = some (.bool (S k).K.2.2.2.2.1) ∧ w.cell? ⟨g, k * 4362 + 2 + 5, none⟩ = some (.int .i64 (S k).K.2.2.2.2.2.1) ∧
    w.cell? ⟨g, k * 4362 + 2 + 6, none⟩ = some (.bool (S k).K.2.2.2.2.2.2.1) ∧ w.cell? ⟨g, k * 4362 + 2 + 7, none⟩ = some (.int .i64 (S k).K.2.2.2.2.2.2.2) := by
  obtain ⟨h1, h2, xs, h3, h4, h5⟩ := h
  obtain ⟨v, hv, ho⟩ := h5 k hk
  have := hv.keys
  exact ⟨⟨by rw [h3.cell]; exact this 0 (by decide), by rw [h3.cell]; exact this 1 (by decide), by rw [h3.cell]; exact this 2 (by decide), by rw [h3.cell]; exact this 3 (by decide)⟩,
    by rw [h3.cell]; exact this 4 (by decide), by rw [h3.cell]; exact this 5 (by decide), by rw [h3.cell]; exact this 6 (by decide), by rw [h3.cell]; exact this 7 (by decide)⟩

theorem WOK.keyRange {base g : Nat} {w : World} {S : W4} (h : WOK base g w S) {k : Nat} (hk : k < 4) : w.rangeAt g (k * 4362 + 2) (k8L (S k).K) := by
  obtain ⟨h1, h2, xs, h3, h4, h5⟩ := h
  obtain ⟨v, hv, ho⟩ := h5 k hk
  intro j u hj
  have hlt : j < 8 := (List.getElem?_eq_some_iff.1 hj).1
  rw [h3.cell, hv.keys j hlt]
  exact hj

/-! What is written. -/
theorem WOK.setRegs {base g : Nat} {w : World} {S : W4} (h : WOK base g w S) {k : Nat} (hk : k < 4) {v : Value} {l : List R6} (ho : OwnR 46 6 encR base w v l) :
    WOK base g (w.setCell ⟨g, k * 4362 + 1, none⟩ v) (upd S k { S k with L := l }) := by
  refine h.splice (vs := [v]) hk (by simp) (fun xs u hl hp ho' => ⟨v, ⟨?_, ?_, fun i hi => ?_, fun a h1 => ?_, fun t h1 => ?_⟩, ho⟩)
  · rw [spl_get hl, if_neg (by omega)]; exact hp.live
  · rw [spl_get hl, if_pos ⟨Nat.le_refl _, by rw [List.length_singleton]; omega⟩, Nat.sub_self, List.getElem?_cons_zero]
  · rw [spl_get hl, if_neg (by simp <;> omega)]; exact hp.keys i hi
  · rw [spl_get hl, if_neg (by simp <;> omega)]; exact hp.byts a h1
  · rw [spl_get hl, if_neg (by simp <;> omega)]; exact hp.tags t h1

theorem WOK.setByte {base g : Nat} {w : World} {S : W4} (h : WOK base g w S) {k : Nat} (hk : k < 4) {j : Nat} (hj : j < 4096) (x : Int) :
    WOK base g (w.setCell ⟨g, k * 4362 + 10 + j, none⟩ (.int .u8 x)) (upd S k { S k with B := fun a => if a = j then x else (S k).B a }) := by
  rw [Nat.add_assoc]
  refine h.splice (vs := [.int .u8 x]) hk (by simp <;> omega) (fun xs u hl hp ho' => ⟨u, ⟨?_, ?_, fun i hi => ?_, fun a h1 => ?_, fun t h1 => ?_⟩, ho'⟩)
  · rw [spl_get hl, if_neg (by omega)]; exact hp.live
  · rw [spl_get hl, if_neg (by omega)]; exact hp.regs
  · rw [spl_get hl, if_neg (by omega)]; exact hp.keys i hi
  · rw [spl_get hl]
    by_cases he : a = j
    · rw [if_pos (by simp <;> omega), he, show k * 4362 + 10 + j - (k * 4362 + (10 + j)) = 0 by omega]
      simp
    · rw [if_neg (by simp <;> omega)]
      simp only [if_neg he]
      exact hp.byts a h1
  · rw [spl_get hl, if_neg (by simp <;> omega)]; exact hp.tags t h1

theorem WOK.setTag {base g : Nat} {w : World} {S : W4} (h : WOK base g w S) {k : Nat} (hk : k < 4) {j : Nat} (hj : j < 256) (x : Int) :
    WOK base g (w.setCell ⟨g, k * 4362 + 4106 + j, none⟩ (.int .i64 x)) (upd S k { S k with T := fun a => if a = j then x else (S k).T a }) := by
  rw [Nat.add_assoc]
  refine h.splice (vs := [.int .i64 x]) hk (by simp <;> omega) (fun xs u hl hp ho' => ⟨u, ⟨?_, ?_, fun i hi => ?_, fun a h1 => ?_, fun t h1 => ?_⟩, ho'⟩)
  · rw [spl_get hl, if_neg (by omega)]; exact hp.live
  · rw [spl_get hl, if_neg (by omega)]; exact hp.regs
  · rw [spl_get hl, if_neg (by omega)]; exact hp.keys i hi
  · rw [spl_get hl, if_neg (by omega)]; exact hp.byts a h1
  · rw [spl_get hl]
    by_cases he : t = j
    · rw [if_pos (by simp <;> omega), he, show k * 4362 + 4106 + j - (k * 4362 + (4106 + j)) = 0 by omega]
      simp
    · rw [if_neg (by simp <;> omega)]
      simp only [if_neg he]
      exact hp.tags t h1

theorem k8L_len (l : K8) : (k8L l).length = 8 := rfl

theorem WOK.setKeys {base g : Nat} {w : World} {S : W4} (h : WOK base g w S) {k : Nat} (hk : k < 4) (l : K8) :
    WOK base g (w.setCells g (k * 4362 + 2) (k8L l)) (upd S k { S k with K := l }) := by
  refine h.splice hk (by rw [k8L_len]; omega) (fun xs u hl hp ho' => ⟨u, ⟨?_, ?_, fun i hi => ?_, fun a h1 => ?_, fun t h1 => ?_⟩, ho'⟩)
  · rw [spl_get hl, if_neg (by omega)]; exact hp.live
  · rw [spl_get hl, if_neg (by omega)]; exact hp.regs
  · rw [spl_get hl, if_pos (by rw [k8L_len]; omega), Nat.add_sub_cancel_left]
  · rw [spl_get hl, if_neg (by rw [k8L_len]; omega)]; exact hp.byts a h1
  · rw [spl_get hl, if_neg (by rw [k8L_len]; omega)]; exact hp.tags t h1

/-- So many bytes from place j on are zero. -/
theorem WOK.zeroBytes {base g : Nat} {w : World} {S : W4} (h : WOK base g w S) {k : Nat} (hk : k < 4) {j n : Nat} (hj : j + n ≤ 4096) :
    WOK base g (w.setCells g (k * 4362 + 10 + j) (List.replicate n (.int .u8 0))) (upd S k { S k with B := fun a => if j ≤ a ∧ a < j + n then 0 else (S k).B a }) := by
  rw [Nat.add_assoc]
  refine h.splice hk (by simp <;> omega) (fun xs u hl hp ho' => ⟨u, ⟨?_, ?_, fun i hi => ?_, fun a h1 => ?_, fun t h1 => ?_⟩, ho'⟩)
  · rw [spl_get hl, if_neg (by omega)]; exact hp.live
  · rw [spl_get hl, if_neg (by omega)]; exact hp.regs
  · rw [spl_get hl, if_neg (by omega)]; exact hp.keys i hi
  · rw [spl_get hl]
    by_cases he : j ≤ a ∧ a < j + n
    · rw [if_pos (by simp <;> omega)]
      simp only [if_pos he]
      rw [List.getElem?_replicate_of_lt (by omega)]
    · rw [if_neg (by simp <;> omega)]
      simp only [if_neg he]
      exact hp.byts a h1
  · rw [spl_get hl, if_neg (by simp <;> omega)]; exact hp.tags t h1

theorem WOK.zeroTags {base g : Nat} {w : World} {S : W4} (h : WOK base g w S) {k : Nat} (hk : k < 4) {j n : Nat} (hj : j + n ≤ 256) :
    WOK base g (w.setCells g (k * 4362 + 4106 + j) (List.replicate n (.int .i64 0))) (upd S k { S k with T := fun a => if j ≤ a ∧ a < j + n then 0 else (S k).T a }) := by
  rw [Nat.add_assoc]
  refine h.splice hk (by simp <;> omega) (fun xs u hl hp ho' => ⟨u, ⟨?_, ?_, fun i hi => ?_, fun a h1 => ?_, fun t h1 => ?_⟩, ho'⟩)
  · rw [spl_get hl, if_neg (by omega)]; exact hp.live
  · rw [spl_get hl, if_neg (by omega)]; exact hp.regs
  · rw [spl_get hl, if_neg (by omega)]; exact hp.keys i hi
  · rw [spl_get hl, if_neg (by omega)]; exact hp.byts a h1
  · rw [spl_get hl]
    by_cases he : j ≤ t ∧ t < j + n
    · rw [if_pos (by simp <;> omega)]
      simp only [if_pos he]
      rw [List.getElem?_replicate_of_lt (by omega)]
    · rw [if_neg (by simp <;> omega)]
      simp only [if_neg he]
      exact hp.tags t h1

/-- What is written to block g leaves all else. -/
theorem Spare.set {g : Nat} {w w1 : World} (h : Spare g w w1) (i : Nat) (v : Value) : Spare g w (w1.setCell ⟨g, i, none⟩ v) := h.setCells i [v]

theorem Spare.below {g : Nat} {w w1 w2 : World} (h : Spare g w w1) (hb : Below w1.heap.size w1 w2) : Spare g w w2 := h.trans (Spare.of_below hb)

/-- The regions of a process as a slice that is read, in a later world too. -/
theorem WOK.recs {base g : Nat} {w : World} {S : W4} (h : WOK base g w S) (hi : Inv S) {k : Nat} (hk : k < 4) :
    ∃ a cap, w.cell? ⟨g, k * 4362 + 1, none⟩ = some (.slice a (S k).L.length cap) ∧ IsRecs encR 64 w (.slice a (S k).L.length cap) (S k).L ∧ (S k).L.length ≤ 64 := by
  obtain ⟨a, cap, h1, h2⟩ := h.regs hk
  have h3 := good_len (hi.1 k).good
  exact ⟨a, cap, h1, h2.recs h3, h3⟩

end Go.Proofs.Ytlhmfbkpmfofiai

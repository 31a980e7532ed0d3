/- Small laws on rows of one-cell values that the call itself has made: making, copying, reading, storing; no program is named. -/
import Derived.WalkKit
import Derived.Below
import Derived.Laws.CopyOwn
import Derived.Laws.OwnMore
import Derived.Maps.AppendAt
namespace Go.Proofs.Ytbiipnojhjhejaa
set_option maxRecDepth 100000
open Go.RowKit

theorem ret_bool {a b : Bool} (h : a = b) : Ending.returned (.bool a) = .returned (.bool b) := by rw [h]
theorem ret_int {k : IntKind} {a b : Int} (h : a = b) : Ending.returned (.int k a) = .returned (.int k b) := by rw [h]

theorem cell_lt {w : World} {a : Addr} {v : Value} (h : w.cell? a = some v) : a.block < w.heap.size := by
  unfold World.cell? at h
  by_cases hb : a.block < w.heap.size
  · exact hb
  · simp [Array.getElem?_eq_none (Nat.le_of_not_lt hb)] at h

/-- Block g is a row of the call's own: the one-cell values xs, none of them frozen. -/
def OwnRow (w : World) (g : Nat) (e : TypeId) (xs : List Value) : Prop := w.heap[g]? = some (.cells xs.toArray e (0, 0))

theorem OwnRow.cell {w : World} {g : Nat} {e : TypeId} {xs : List Value} (h : OwnRow w g e xs) (i : Nat) : w.cell? ⟨g, i, none⟩ = xs[i]? := by
  rw [cell_of_row w g i xs.toArray e (0, 0) h]; simp

theorem OwnRow.free {w : World} {g : Nat} {e : TypeId} {xs : List Value} (h : OwnRow w g e xs) (i : Nat) : w.frozen? ⟨g, i, none⟩ = false :=
  frozen_of_row w g i xs.toArray e h

theorem OwnRow.lt {w : World} {g : Nat} {e : TypeId} {xs : List Value} (h : OwnRow w g e xs) : g < w.heap.size := (Array.getElem?_eq_some_iff.1 h).1

theorem OwnRow.set {w : World} {g : Nat} {e : TypeId} {xs : List Value} (h : OwnRow w g e xs) (i : Nat) (v : Value) : OwnRow (w.setCell ⟨g, i, none⟩ v) g e (xs.set i v) := by
  unfold OwnRow at *
  simp only [World.setCell, Array.getElem?_modify, h]
  simp

theorem OwnRow.of_block {w w' : World} {g : Nat} {e : TypeId} {xs : List Value} (h : OwnRow w g e xs) (hb : w'.heap[g]? = w.heap[g]?) : OwnRow w' g e xs := by
  unfold OwnRow at *; rw [hb, h]

theorem OwnRow.below {B : Nat} {w w' : World} {g : Nat} {e : TypeId} {xs : List Value} (h : OwnRow w g e xs) (hb : Below B w w') (hg : g < B) : OwnRow w' g e xs :=
  h.of_block (hb.block g hg)

/-- 'make([]T, n)', T of one cell: a new row of zero values. -/
theorem wpList_make_row {P : Program} (w : World) {ops : Array Oper} {rest : List Oper} {o : Oper} {a : Act} {Q : Exit → Act → World → Prop}
    (hg : o.guard = none) (l c : Operand) (t : TypeId) (hop : o.op = Op.makeSlice t l c)
    (e : TypeId) (i : TypeInfo) (z : Value) (h1 : P.underlying t = some (.slice e)) (h2 : P.info? e = some i) (h3 : i.zero = some z) (h4 : i.size = 1) (hz : z.cells = #[z])
    (kl kc : IntKind) (L C : Int) (n : Nat) (hl : a.eval l = .int kl L) (hc : a.eval c = .int kc C) (hL : L = (n : Int)) (hC : C = (n : Int)) (b2 : i.bytes * n ≤ 281474976710656) (b3 : n ≤ maxLen)
    (hK : ∀ w', OwnRow w' w.heap.size e (List.replicate n z) → Below w.heap.size w w' → w'.heap.size = w.heap.size + 1 → wpList P ops Q rest (a.put o.dst (.slice (some ⟨w.heap.size, 0, none⟩) n n)) w') :
    wpList P ops Q (o :: rest) a w := by
  refine wpList_plain hg fun K hK' => ?_
  have b2' : (i.bytes : Int) * (n : Int) ≤ 281474976710656 := by rw [← Int.natCast_mul]; omega
  have b3' : (n : Int) ≤ 9223372036854775807 := by unfold maxLen at b3; omega
  have hrun := run_make (P := P) w t e i z h1 h2 h3 kl kc (n : Int) (n : Int) (by omega) (by omega) b2' b3'
  subst hL
  subst hC
  rw [Int.toNat_natCast] at hrun
  unfold Oper.wp
  simp [execOp, hop, hl, hc, hrun, Result.andThen]
  refine hK' _ _ (hK _ ?_ ((Below.refl _ _).alloc (Nat.le_refl _) _) (by simp))
  unfold OwnRow
  rw [h4, Nat.mul_one, hz, heap_alloc_new]
  rw [← toList_madeCells_one]

/-- 'copy(dst, src)', dst a row of the call's own as long as src: behind it the row holds what src held. -/
theorem wpList_copy_row {P : Program} {w : World} {ops : Array Oper} {rest : List Oper} {o : Oper} {a : Act} {Q : Exit → Act → World → Prop} (hgd : o.guard = none) (d s : Operand) (dT sT : TypeId)
    (ho : o.op = .call { callee := .builtin .copy, args := #[d, s], argTypes := #[dT, sT] }) (elem : TypeId) (hu : P.underlying dT = some (.slice elem)) (hsz : (P.info? elem).map (·.size) = some 1)
    (dp sp : Option Addr) (n dCap sCap : Nat) (hd : a.eval d = .slice dp n dCap) (hs : a.eval s = .slice sp n sCap)
    (g : Nat) (cur : List Value) (t : TypeId) (hg : OwnRow w g t cur) (cs : List Value) (hn : cs.length = n) (hcur : cur.length = n)
    (hpos : 0 < n → dp = some ⟨g, 0, none⟩ ∧ ∃ ad, sp = some ad ∧ ∀ j v, cs[j]? = some v → w.cell? (ad.add j) = some v)
    (h1 : ∀ v ∈ cs, v.oneCell' = true) (B : Nat) (w0 : World) (hb : Below B w0 w) (hBg : B ≤ g)
    (h : ∀ w', OwnRow w' g t cs → Below B w0 w' → wpList P ops Q rest (a.put o.dst (goInt n)) w') :
    wpList P ops Q (o :: rest) a w := by
  refine wpList_copy_splice hgd d s dT sT ho elem hu hsz dp sp n dCap n sCap hd hs g 0 cur t hg cs (by rw [hn]; exact (Nat.min_self n).symm) (fun hp => hpos (by omega)) (by omega) h1 B w0 hb hBg ?_
  intro w' hw' hb'
  have e : splice cur 0 cs = cs := by
    unfold splice
    simp [hn, hcur, List.drop_eq_nil_of_le]
  rw [hn]
  refine h w' ?_ hb'
  have := hw'.out
  rw [e] at this
  exact this

/-- 'out = append(out, x)', out nil or the call's own, x of one cell (it lies in a new block of its own): it may grow. -/
theorem wpList_append_one {P : Program} {wr : World} {ops : Array Oper} {rest : List Oper} {o : Oper} {a : Act} {Q : Exit → Act → World → Prop} (hgd : o.guard = none) (s y : Operand) (t : TypeId)
    (ho : o.op = .call { callee := .builtin .append, args := #[s, y], argTypes := #[t, t] })
    (base : Nat) (e : TypeId) (i : TypeInfo) (z : Value) (bytes : Nat) (ht : P.underlying t = some (.slice e)) (hi : P.info? e = some i) (hz : i.zero = some z)
    (hsize : i.size = 1) (hby : i.bytes = bytes) (hzs : z.cells.size = 1)
    (v : Value) (n : Nat) (xs : List Value) (hs : a.eval s = v) (hown : wr.ownsRow base e 1 v n xs)
    (x : Value) (hx : a.eval y = .slice (some ⟨wr.heap.size, 0, none⟩) 1 1) (h1 : x.oneCell' = true)
    (h63 : n + 1 ≤ maxLen) (hbytes : (n + 1) * bytes ≤ 140737488355328) (w0 : World) (hb : Below base w0 wr) (hbase : base ≤ wr.heap.size)
    (h : ∀ v' w', w'.ownsRow base e 1 v' (n + 1) (xs ++ [x]) → Below base w0 w' → wpList P ops Q rest (a.put o.dst v') w') : wpList P ops Q (o :: rest) a (wr.alloc (.cells #[x] e)) := by
  have hsz : (wr.alloc (.cells #[x] e)).heap.size = wr.heap.size + 1 := by simp
  refine wpList_append_own _ hgd s y t ho base e i z 1 bytes ht hi hz hsize hby hzs (by decide) v n xs hs (hown.alloc _) ⟨wr.heap.size, 0, none⟩ 1 1 [x] hx rfl (cell_one_new _ _ _) (by intro u hu; simp at hu; subst hu; exact h1) h63 hbytes (by omega) ?_
  intro v' w' hown' hg _
  exact h v' w' hown' ((hb.alloc hbase _).grown hg (by omega) (fun k hk => (hown.lt k hk).1))

theorem OwnRow.pair {w : World} {g : Nat} {e : TypeId} {a b : Value} (h : OwnRow w g e [a, b]) :
    (w.cell? ⟨g, 0, none⟩ = some a ∧ w.cell? ⟨g, 1, none⟩ = some b) ∧ w.frozen? ⟨g, 0, none⟩ = false ∧ w.frozen? ⟨g, 1, none⟩ = false :=
  ⟨⟨by rw [h.cell]; rfl, by rw [h.cell]; rfl⟩, h.free 0, h.free 1⟩

/-- Two boxes that were laid one behind the other. -/
theorem own_two {w w1 : World} {e e' : TypeId} {xs ys : List Value}
    (hb : Below ((w.alloc (.cells xs.toArray e)).alloc (.cells ys.toArray e')).heap.size ((w.alloc (.cells xs.toArray e)).alloc (.cells ys.toArray e')) w1) :
    OwnRow w1 w.heap.size e xs ∧ OwnRow w1 (w.heap.size + 1) e' ys := by
  have h1 : OwnRow (w.alloc (.cells xs.toArray e)) w.heap.size e xs := heap_alloc_new w _
  have h2 : OwnRow ((w.alloc (.cells xs.toArray e)).alloc (.cells ys.toArray e')) w.heap.size e xs := h1.below ((Below.refl _ _).alloc (Nat.le_refl _) _) h1.lt
  have h3 : OwnRow ((w.alloc (.cells xs.toArray e)).alloc (.cells ys.toArray e')) (w.heap.size + 1) e' ys := by
    have := heap_alloc_new (w.alloc (.cells xs.toArray e)) (.cells ys.toArray e')
    simpa [OwnRow] using this
  exact ⟨h2.below hb h2.lt, h3.below hb h3.lt⟩

theorem own_one {w w1 : World} {e : TypeId} {xs : List Value} (hb : Below (w.alloc (.cells xs.toArray e)).heap.size (w.alloc (.cells xs.toArray e)) w1) : OwnRow w1 w.heap.size e xs := by
  have h1 : OwnRow (w.alloc (.cells xs.toArray e)) w.heap.size e xs := heap_alloc_new w _
  exact h1.below hb h1.lt

theorem add_none (b off j : Nat) : (⟨b, off, none⟩ : Addr).add j = ⟨b, off + j, none⟩ := by simp [Addr.add]

/-- xs with vs laid over it from place o on. -/
def spl (xs : List Value) (o : Nat) (vs : List Value) : List Value := xs.take o ++ vs ++ xs.drop (o + vs.length)

theorem spl_len {xs : List Value} {o : Nat} {vs : List Value} (h : o + vs.length ≤ xs.length) : (spl xs o vs).length = xs.length := by
  simp [spl]; omega

theorem spl_take_lo {xs : List Value} {o : Nat} {vs : List Value} (h : o ≤ xs.length) : (spl xs o vs).take o = xs.take o := by
  unfold spl
  rw [List.append_assoc, List.take_append_of_le_length (by rw [List.length_take]; omega), List.take_take, Nat.min_self]

theorem spl_take_hi {xs : List Value} {o : Nat} {vs : List Value} (h : o ≤ xs.length) : (spl xs o vs).take (o + vs.length) = xs.take o ++ vs := by
  unfold spl
  rw [List.take_append_of_le_length (by rw [List.length_append, List.length_take]; omega), List.take_of_length_le (by rw [List.length_append, List.length_take]; omega)]

theorem spl_cons (xs : List Value) (o : Nat) (v : Value) (r : List Value) (h : o + (r.length + 1) ≤ xs.length) : spl (xs.set o v) (o + 1) r = spl xs o (v :: r) := by
  unfold spl
  have h1 : (xs.set o v).take (o + 1) = xs.take o ++ [v] := by
    rw [List.take_add_one, List.getElem?_set_self (by omega)]
    simp [List.take_set_of_le]
  have h2 : (xs.set o v).drop (o + 1 + r.length) = xs.drop (o + (v :: r).length) := by
    rw [List.drop_set_of_lt (by omega)]
    congr 1
    simp; omega
  rw [h1, h2]
  simp

theorem OwnRow.setCells {g : Nat} {e : TypeId} : ∀ (vs : List Value) (o : Nat) (w : World) (xs : List Value), OwnRow w g e xs → o + vs.length ≤ xs.length → OwnRow (w.setCells g o vs) g e (spl xs o vs)
  | [], o, w, xs, h, _ => by simpa [spl, World.setCells] using h
  | v :: r, o, w, xs, h, hl => by
    rw [World.setCells, ← spl_cons xs o v r (by simpa using hl)]
    exact OwnRow.setCells r (o + 1) _ _ (h.set o v) (by simp at hl ⊢; omega)

theorem below_setCells {B g : Nat} (hg : B ≤ g) : ∀ (vs : List Value) (o : Nat) (w0 w : World), Below B w0 w → Below B w0 (w.setCells g o vs)
  | [], _, _, _, h => h
  | v :: r, o, w0, _, h => below_setCells hg r (o + 1) w0 _ (h.setCell hg v)

end Go.Proofs.Ytbiipnojhjhejaa

/- Slices of api.Region as lists of spans with what they are like: how one stands in memory. -/
import Derived.Test.YtlhmfbkpmfofiaiRows
import Derived.WalkKit
import Derived.WalkLawsBesides
import Derived.WalkSpells
import Derived.Below
import Derived.OpenShut
import Derived.Test.YtlhmfbkpmfofiaiCalm
import Derived.Test.YtlhmfbkpmfofiaiRecs
import Derived.Test.YtlhmfbkpmfofiaiJMath
namespace Go.Proofs.Ytlhmfbkpmfofiai
set_option maxRecDepth 100000
open Go.RowKit
set_option linter.unusedSimpArgs false
set_option linter.unusedVariables false

/-- From, To, Rights, Key, Tagged, Sealed. -/
def encR (x : R6) : List Value := [.int .i64 x.1, .int .i64 x.2.1, .int .i64 x.2.2.1, .int .i64 x.2.2.2.1, .bool x.2.2.2.2.1, .bool x.2.2.2.2.2]

theorem shR : Shape R6 6 encR := ⟨fun _ => rfl, fun x v hv => by
  simp only [encR, List.mem_cons, List.not_mem_nil, or_false] at hv
  rcases hv with rfl | rfl | rfl | rfl | rfl | rfl <;> rfl, by decide⟩

theorem info_region : (Try.prog.info? 46).map (fun i => (i.zero, i.size, i.bytes)) = some (some (.agg #[.int .i64 0, .int .i64 0, .int .i64 0, .int .i64 0, .bool false, .bool false]), 6, 40) := by kernel_rfl

def bdI (x : Int) : Prop := -9223372036854775808 ≤ x ∧ x ≤ 9223372036854775807
/-- From and To are numbers of sixty-four bits. -/
def wfR (x : R6) : Prop := bdI x.1 ∧ bdI x.2.1

theorem wf_bd {x : Int} (h : (Lit.int .i64 x).wf = true) : bdI x := by
  have hb := bounds_i64 h
  exact ⟨by omega, by omega⟩

/-- Six cells of a row. -/
theorem OwnRow.six {w : World} {g : Nat} {e : TypeId} {a b c d x y : Value} (h : OwnRow w g e [a, b, c, d, x, y]) :
    w.cell? ⟨g, 0, none⟩ = some a ∧ w.cell? ⟨g, 1, none⟩ = some b ∧ w.cell? ⟨g, 2, none⟩ = some c ∧ w.cell? ⟨g, 3, none⟩ = some d ∧ w.cell? ⟨g, 4, none⟩ = some x ∧ w.cell? ⟨g, 5, none⟩ = some y :=
  ⟨by rw [h.cell]; rfl, by rw [h.cell]; rfl, by rw [h.cell]; rfl, by rw [h.cell]; rfl, by rw [h.cell]; rfl, by rw [h.cell]; rfl⟩

/-- The six cells of an element, in a later world. -/
theorem cell6 {w wr : World} {b off : Nat} {l : List R6} (hc : ∀ j u, (flatL encR l)[j]? = some u → w.cell? ⟨b, off + j, none⟩ = some u) (hbel : Below w.heap.size w wr) (k : Nat) (hk : k < l.length) {f t r y : Int} {g s : Bool} (hp : (f, t, r, y, g, s) = l.getD k zR) :
    wr.cell? ⟨b, off + k * 6, none⟩ = some (.int .i64 f) ∧ wr.cell? ⟨b, off + k * 6 + 1, none⟩ = some (.int .i64 t) ∧ wr.cell? ⟨b, off + k * 6 + 2, none⟩ = some (.int .i64 r) ∧ wr.cell? ⟨b, off + k * 6 + 3, none⟩ = some (.int .i64 y) ∧ wr.cell? ⟨b, off + k * 6 + 4, none⟩ = some (.bool g) ∧ wr.cell? ⟨b, off + k * 6 + 5, none⟩ = some (.bool s) := by
  have hcell := fun t u ht hu => recs_cell shR hc zR k t hk ht (u := u) hu
  rw [← hp] at hcell
  have go := fun t u ht hu => (hbel.cell (cell_lt (hcell t u ht hu))).trans (hcell t u ht hu)
  exact ⟨go 0 _ (by decide) rfl, go 1 _ (by decide) rfl, go 2 _ (by decide) rfl, go 3 _ (by decide) rfl, go 4 _ (by decide) rfl, go 5 _ (by decide) rfl⟩

/-- A box that was just laid: its cells. -/
theorem box6 (W : World) (s : Nat) (hs : s = W.heap.size) (f t r k : Int) (g e : Bool) (ty : TypeId) : ∀ j u, (encR (f, t, r, k, g, e))[j]? = some u → (W.alloc (.cells #[.int .i64 f, .int .i64 t, .int .i64 r, .int .i64 k, .bool g, .bool e] ty)).cell? (Addr.add ⟨s, 0, none⟩ j) = some u := by
  intro j v hj
  subst hs
  rw [add_none, Nat.zero_add]
  have : OwnRow (W.alloc (.cells #[.int .i64 f, .int .i64 t, .int .i64 r, .int .i64 k, .bool g, .bool e] ty)) W.heap.size ty (encR (f, t, r, k, g, e)) := heap_alloc_new W _
  rw [this.cell, hj]

end Go.Proofs.Ytlhmfbkpmfofiai

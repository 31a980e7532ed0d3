/- Slices of ints as lists: an element is one cell. -/
import Derived.Test.YtbiipnojhjhejaaRows
import Derived.Test.YtbiipnojhjhejaaJRecs
namespace Go.Proofs.Ytbiipnojhjhejaa
set_option maxRecDepth 100000
open Go.RowKit
set_option linter.unusedSimpArgs false
set_option linter.unusedVariables false

def encI (x : Int) : List Value := [.int .i64 x]

theorem shI : Shape Int 1 encI := ⟨fun _ => rfl, fun x v hv => by
  simp only [encI, List.mem_cons, List.not_mem_nil, or_false] at hv
  subst hv
  rfl, by decide⟩

theorem info_int : (Try.prog.info? 3).map (fun i => (i.zero, i.size, i.bytes)) = some (some (.int .i64 0), 1, 8) := by kernel_rfl

/-- The cell of an element, in a later world. -/
theorem cell1 {w wr : World} {b off : Nat} {l : List Int} (hc : ∀ j u, (flatL encI l)[j]? = some u → w.cell? ⟨b, off + j, none⟩ = some u) (hbel : Below w.heap.size w wr) (k : Nat) (hk : k < l.length) {x : Int} (hp : x = l.getD k 0) : wr.cell? ⟨b, off + k, none⟩ = some (.int .i64 x) := by
  have hcell := recs_cell shI hc 0 k 0 hk (by decide) (u := .int .i64 x) (by rw [← hp]; rfl)
  rw [Nat.mul_one, Nat.add_zero] at hcell
  exact (hbel.cell (cell_lt hcell)).trans hcell

/-- A box that was just laid: its cell. -/
theorem box1 (W : World) (s : Nat) (hs : s = W.heap.size) (x : Int) (ty : TypeId) : ∀ j u, (encI x)[j]? = some u → (W.alloc (.cells #[.int .i64 x] ty)).cell? (Addr.add ⟨s, 0, none⟩ j) = some u := by
  intro j v hj
  subst hs
  rw [add_none, Nat.zero_add]
  have : OwnRow (W.alloc (.cells #[.int .i64 x] ty)) W.heap.size ty (encI x) := heap_alloc_new W _
  rw [this.cell, hj]

end Go.Proofs.Ytbiipnojhjhejaa

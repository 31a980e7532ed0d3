/- A region that draws its order, whose operations only read and whose callees only make new memory: one walk in the order of the text serves every order; no program is named. -/
import Derived.Test.YtbiipnojhjhejaaKit
import Derived.BigQuiet
namespace Go.Proofs.Ytbiipnojhjhejaa
set_option maxRecDepth 100000
open Go.RowKit

/-- A world in which all that lay in W lies as it did. -/
structure Wd (W : World) where
  w : World
  ok : Below W.heap.size W w

theorem Wd.cell {W : World} (u : Wd W) {p : Addr} {v : Value} (h : W.cell? p = some v) : u.w.cell? p = some v := by
  rw [← h]; exact u.ok.cell (cell_lt h)

theorem wp_region_calm {P : Program} {id : Nat} {Q : Exit → Act → World → Prop} {a : Act} {w : World} {l : List Oper} (hm : P.follows .mixedOrders = true) (hB : Region.lexB .any l.toArray = true)
    (h : ∀ W, W = w → Nonempty (Wd W) → wpQuiet P l.toArray (fun w' => ∃ u : Wd W, w' = u.w) (fun a' => ∀ w', (∃ u : Wd W, w' = u.w) → Q .normal a' w') l a) : (Code.region id l.toArray true).wp P Q a w :=
  wp_region_quiet (C := fun w' => ∃ u : Wd w, w' = u.w) hm hB ⟨⟨_, (Below.refl _ _).drew⟩, rfl⟩ (by simpa using h w rfl ⟨⟨w, Below.refl _ _⟩⟩)

theorem calm_of {P : Program} {f : FuncId} {args : Array Value} {W : World} {u : Wd W} {v : Value}
    (h : Calls P f args u.w fun e w' => e = .returned v ∧ Below u.w.heap.size u.w w') : Calls P f args u.w fun e w'' => e = .returned v ∧ ∃ u' : Wd W, w'' = u'.w :=
  h.mono fun _ w2 ⟨he, hb⟩ => ⟨he, ⟨w2, u.ok.trans (hb.mono u.ok.size)⟩, rfl⟩

theorem calm_same {P : Program} {f : FuncId} {args : Array Value} {W : World} {u : Wd W} {v : Value}
    (h : Calls P f args u.w fun e w' => e = .returned v ∧ u.w = w') : Calls P f args u.w fun e w'' => e = .returned v ∧ ∃ u' : Wd W, w'' = u'.w :=
  h.mono fun _ _ ⟨he, hb⟩ => ⟨he, u, hb.symm⟩

end Go.Proofs.Ytbiipnojhjhejaa

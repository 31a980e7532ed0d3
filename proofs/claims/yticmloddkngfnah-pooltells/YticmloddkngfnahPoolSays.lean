/- Pools as the calls of package pool hand them about: the contracts of New, Right, Take, Share, Drop and of framewardenref.SamePool over cells whose slice reads as a list. -/
import Derived.Test.YticmloddkngfnahPool7
import Derived.Test.YticmloddkngfnahPoolSame
import Derived.Deep.RegionHeld3
namespace Go.Proofs.Yticmloddkngfnah
open Go.RowKit
set_option linter.unusedSimpArgs false
set_option linter.unusedVariables false

theorem wpList_load_row_g {P : Program} {ops : Array Oper} {rest : List Oper} {o : Oper} {a : Act} {w : World} {Q : Exit → Act → World → Prop} (ty : TypeId) (x : Operand) (ho : o.op = .load ty x) (hw : Region.wanted o (yielded ops a.tmps) = true)
    (g : Nat) (hx : a.eval x = .pointer (some ⟨g, 0, none⟩)) (t : TypeId) (cs : Array Value) (fr : Nat × Nat) (d : TypeDesc) (hg : w.heap[g]? = some (.cells cs t fr))
    (hu : P.underlying ty = some d) (hd : (match d with | .struct _ | .array _ _ => true | _ => false) = true) (hi : (P.info? ty).map (·.size) = some cs.size)
    (h : wpList P ops Q rest (a.put o.dst (.agg cs)) w) : wpList P ops Q (o :: rest) a w :=
  wpList_step fun K hK => by
    rw [if_pos hw]
    exact wp_load_row ty x ho g hx t cs fr d hg hu hd hi (hK _ _ h)

theorem loadAt_row {w : World} {g : Nat} {v : Value} {R : Nat → Int} (hv : v.oneCell' = true) (h : OwnRow w g 25 (poolC v R)) : (Instr.loadAt 25 (.pointer (some ⟨g, 0, none⟩))).run Try.prog w = .ok (.agg (poolC v R).toArray) w := by
  simp only [Instr.loadAt, Instr.sureAddr, Sem.run_bind, Sem.run_pure, Result.andThen]
  exact run_loadVar_row w g 25 _ (poolC v R).toArray (0, 0) _ h Try.underlying25 rfl (pool_facts hv R).1

/-- A pool that a call answers: its cells, how the slice in them reads, and that they fit. -/
def IsPool (w : World) (X : Array Value) (l : List (Int × Int)) (R : Nat → Int) : Prop := ∃ v, X = (poolC v R).toArray ∧ IsBlocks w v l

theorem IsPool.below {w w' : World} {X : Array Value} {l : List (Int × Int)} {R : Nat → Int} (h : IsPool w X l R) (hb : Below w.heap.size w w') : IsPool w' X l R := by
  obtain ⟨v, hv, h⟩ := h
  exact ⟨v, hv, h.below hb⟩

theorem IsPool.facts {w : World} {X : Array Value} {l : List (Int × Int)} {R : Nat → Int} (h : IsPool w X l R) : (Try.prog.info? 25).map (·.size) = some X.size ∧ X.size = 65 ∧ X.all (·.oneCell') = true := by
  obtain ⟨v, rfl, h⟩ := h
  obtain ⟨a, n, c, rfl⟩ := h.form
  exact pool_facts rfl R

theorem IsPool.load {w w1 : World} {X : Array Value} {l : List (Int × Int)} {R : Nat → Int} (h : IsPool w X l R) {g : Nat} (hg : w1.heap[g]? = some (.cells X 25 (0, 0))) : (Instr.loadAt 25 (.pointer (some ⟨g, 0, none⟩))).run Try.prog w1 = .ok (.agg X) w1 := by
  obtain ⟨v, rfl, h⟩ := h
  obtain ⟨a, n, c, rfl⟩ := h.form
  exact loadAt_row rfl hg

theorem IsPool.refs {w w1 : World} {X : Array Value} {l : List (Int × Int)} {R : Nat → Int} (h : IsPool w X l R) {g i : Nat} (hg : w1.heap[g]? = some (.cells X 25 (0, 0))) (hi : i < 64) : w1.cell? ⟨g, 1 + i, none⟩ = some (.int .i64 (R i)) := by
  obtain ⟨v, rfl, h⟩ := h
  exact OwnRow.refs (v := v) (e := 25) hg i hi

/-- Where the list of a pool lies: from block lo on, ahead of block hi. -/
def Lies (lo hi : Nat) (X : Array Value) (l : List (Int × Int)) : Prop := 0 < l.length → ∃ b off n c, X[0]? = some (.slice (some ⟨b, off, none⟩) n c) ∧ lo ≤ b ∧ b < hi

theorem lies_own {lo : Nat} {w : World} {v : Value} {l : List (Int × Int)} (R : Nat → Int) (h : OwnB lo w v l) : Lies lo w.heap.size (poolC v R).toArray l := by
  intro hp
  obtain ⟨h1, h2 | ⟨g, cap, cur, rfl, hbg, hg, hr⟩⟩ := h
  · omega
  · exact ⟨g, 0, _, _, rfl, hbg, (Array.getElem?_eq_some_iff.1 hg).1⟩

theorem IsPool.setRow {w : World} {X : Array Value} {l : List (Int × Int)} {R : Nat → Int} (h : IsPool w X l R) {lo hi g : Nat} (hl : Lies lo hi X l) (hg : g < lo ∨ hi ≤ g) (cs : Array Value) : IsPool (w.setRow g cs) X l R := by
  obtain ⟨v, rfl, a, cap, rfl, h1, h2, h3⟩ := h
  refine ⟨_, rfl, a, cap, rfl, h1, h2, fun hp => ?_⟩
  obtain ⟨b, off, rfl, hc⟩ := h3 hp
  obtain ⟨b', off', n', c', he, hlo, hhi⟩ := hl hp
  have he' : some (Value.slice (some ⟨b, off, none⟩) l.length cap) = some (Value.slice (some ⟨b', off', none⟩) n' c') := he
  simp only [Option.some.injEq, Value.slice.injEq, Addr.mk.injEq] at he'
  obtain ⟨⟨rfl, rfl, -⟩, -, -⟩ := he'
  refine ⟨b, off, rfl, fun i hi => ?_⟩
  rw [cell_setRow_other w g cs _ (by simp only; omega), cell_setRow_other w g cs _ (by simp only; omega)]
  exact hc i hi

theorem heap_below {w w' : World} {g : Nat} {X : Array Value} {t : TypeId} (h : w.heap[g]? = some (.cells X t (0, 0))) (hb : Below w.heap.size w w') : w'.heap[g]? = some (.cells X t (0, 0)) :=
  (hb.block g (Array.getElem?_eq_some_iff.1 h).1).trans h

/-! The calls over pools, so said. -/
theorem new_pool (w : World) : Calls Try.prog 12 #[] w fun e w' => ∃ X, e = .returned (.agg X) ∧ IsPool w' X [(0, 6)] (fun _ => 0) ∧ Lies w.heap.size w'.heap.size X [(0, 6)] ∧ Below w.heap.size w w' := by
  refine (new13_any w).mono ?_
  rintro e w1 ⟨v, rfl, ho, hb⟩
  exact ⟨_, rfl, ⟨v, rfl, ho.blocks (by simp)⟩, lies_own _ ho, hb⟩

theorem right_pool {X : Array Value} {l : List (Int × Int)} {R : Nat → Int} (w : World) (h : IsPool w X l R) : Calls Try.prog 14 #[.agg X] w fun e w' => e = .returned (.bool (poolB l R)) ∧ Below w.heap.size w w' := by
  obtain ⟨v, rfl, h⟩ := h
  exact right13_any v l R w h

theorem same_pool {X Y : Array Value} {l : List (Int × Int)} {R : Nat → Int} (w : World) (h : IsPool w X l R) (h' : IsPool w Y l R) : Calls Try.prog 11 #[.agg X, .agg Y] w fun e w' => e = .returned (.bool true) ∧ Below w.heap.size w w' := by
  obtain ⟨v, rfl, h⟩ := h
  obtain ⟨v', rfl, h'⟩ := h'
  exact samePool_any v v' l R w h h'

theorem ptL_len (l : List (Int × Int)) (R : Nat → Int) : (ptL l R).length ≤ 64 := by
  unfold ptL
  split
  · exact take_len l 0
  · simp

theorem take_pool' {X : Array Value} {l : List (Int × Int)} {R : Nat → Int} (w : World) (h : IsPool w X l R) : Calls Try.prog 6 #[.agg X] w fun e w' => ∃ Y, e = .returned (.tuple #[.agg Y, .int .i64 (ptN l R), .int .i64 (ptE l R)]) ∧ IsPool w' Y (ptL l R) (ptR l R) ∧ Lies w.heap.size w'.heap.size Y (ptL l R) ∧ Below w.heap.size w w' := by
  obtain ⟨v, rfl, h⟩ := h
  refine (take13_any v l R w h).mono ?_
  rintro e w1 ⟨v, rfl, ho, hb⟩
  exact ⟨_, rfl, ⟨v, rfl, ho.blocks (by have := ptL_len l R; omega)⟩, lies_own _ ho, hb⟩

theorem share_pool' {X : Array Value} {l : List (Int × Int)} {R : Nat → Int} (n : Int) (w : World) (h : IsPool w X l R) : Calls Try.prog 8 #[.agg X, .int .i64 n] w fun e w' => ∃ Y, e = .returned (.tuple #[.agg Y, .int .i64 (psE l R n)]) ∧ IsPool w' Y (psL l R n) (psR l R n) ∧ Lies w.heap.size w'.heap.size Y (psL l R n) ∧ Below w.heap.size w w' := by
  obtain ⟨v, rfl, h⟩ := h
  have hl := h.len
  refine (share13_any v l R n w h).mono ?_
  rintro e w1 ⟨v, rfl, ho, hb⟩
  exact ⟨_, rfl, ⟨v, rfl, ho.blocks (by unfold psL; split; exact hl; simp)⟩, lies_own _ ho, hb⟩

theorem drop_pool' {X : Array Value} {l : List (Int × Int)} {R : Nat → Int} (n : Int) (w : World) (h : IsPool w X l R) (hR : ∀ i : Nat, i < 64 → R i ≤ 9223372036854775807) : Calls Try.prog 10 #[.agg X, .int .i64 n] w fun e w' => ∃ Y, e = .returned (.tuple #[.agg Y, .int .i64 (pwE l R n)]) ∧ IsPool w' Y (pdL l R n) (pdR l R n) ∧ Lies w.heap.size w'.heap.size Y (pdL l R n) ∧ Below w.heap.size w w' := by
  obtain ⟨v, rfl, h⟩ := h
  have hl := h.len
  refine (drop13_any v l R n w h hR).mono ?_
  rintro e w1 ⟨v, rfl, ho, hb⟩
  refine ⟨_, rfl, ⟨v, rfl, ho.blocks ?_⟩, lies_own _ ho, hb⟩
  unfold pdL
  split
  · split
    · have := give_len l n 0; omega
    · omega
  · simp

end Go.Proofs.Yticmloddkngfnah

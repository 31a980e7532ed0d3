/- What lies below, step by step; what flat.Run answers, by value; a variable of processes that is written. -/
import Derived.Test.YtbiipnojhjhejaaFlatClone
namespace Go.Proofs.Ytbiipnojhjhejaa
set_option maxRecDepth 100000
open Go.RowKit
set_option linter.unusedSimpArgs false
set_option linter.unusedVariables false

theorem bl_drew {a w : World} (h : Below a.heap.size a w) : Below a.heap.size a w.drew := h.drew
theorem bl_alloc {a w : World} (h : Below a.heap.size a w) (o : Obj) : Below a.heap.size a (w.alloc o) := h.alloc h.size o
theorem bl_trans {a b c : World} (h : Below a.heap.size a b) (k : Below b.heap.size b c) : Below a.heap.size a c := h.trans (k.mono h.size)
theorem bl_row {a w : World} (h : Below a.heap.size a w) {b : Nat} (hb : a.heap.size ≤ b) (Y : Array Value) : Below a.heap.size a (w.setRow b Y) := below_setRow h hb Y

theorem box_ops (W w2 : World) (s : Nat) (hs : s = W.heap.size) (o : O12) (t : TypeId) (hb : Below (W.alloc (.cells (encO o).toArray t)).heap.size (W.alloc (.cells (encO o).toArray t)) w2) : ∀ j u, (encO o)[j]? = some u → w2.cell? (Addr.add ⟨s, 0, none⟩ j) = some u := by
  intro j u hj
  subst hs
  rw [add_none, Nat.zero_add]
  have h0 : OwnRow (W.alloc (.cells (encO o).toArray t)) W.heap.size t (encO o) := heap_alloc_new W _
  rw [(h0.below hb h0.lt).cell, hj]

theorem blk_of (W w2 : World) (s : Nat) (hs : s = W.heap.size) (o : Obj) (hb : Below (W.alloc o).heap.size (W.alloc o) w2) : w2.heap[s]? = some o := by
  subst hs
  rw [hb.block _ (by simp)]
  exact heap_alloc_new W o

theorem box_ops1 (W w2 : World) (s : Nat) (hs : s = W.heap.size + 1) (z : Obj) (o : O12) (t : TypeId) (hb : Below ((W.alloc z).alloc (.cells (encO o).toArray t)).heap.size ((W.alloc z).alloc (.cells (encO o).toArray t)) w2) : ∀ j u, (encO o)[j]? = some u → w2.cell? (Addr.add ⟨s, 0, none⟩ j) = some u :=
  box_ops (W.alloc z) w2 s (by rw [World.size_alloc]; exact hs) o t hb

theorem blk_of1 (W w2 : World) (s : Nat) (hs : s = W.heap.size + 1) (z o : Obj) (hb : Below ((W.alloc z).alloc o).heap.size ((W.alloc z).alloc o) w2) : w2.heap[s]? = some o :=
  blk_of (W.alloc z) w2 s (by rw [World.size_alloc]; exact hs) o hb

/-- What flat.Run answers at a list, by value. -/
theorem run14_show (v : Value) (l : List O12) (B : Nat) (w : World) (h : IsRecs encO B w v l) (hB : B ≤ 2932031007400) (hwf : ∀ o ∈ l, bdI o.count ∧ bdI o.size) :
    Calls Try.prog 9 #[v] w fun e w' => ∃ a c X, e = .returned (.tuple #[.slice a l.length c, .agg X]) ∧ OwnR 40 4 encA w.heap.size w' (.slice a l.length c) (run14 newW l).2 ∧ Below w.heap.size w w' ∧ ShowX w.heap.size w' (run14 newW l).1 X := by
  refine (run14_any v l w (h.up (Nat.le_trans h.len hB)) hwf).mono ?_
  rintro e w' ⟨a, n, c, xs, rfl, ho, hs, hb⟩
  obtain ⟨a', c', e1⟩ := ho.form
  injection e1 with e1 e2 e3
  subst e1; subst e2; subst e3
  rw [run14_len] at *
  exact ⟨_, _, xs.toArray, rfl, ho, hb, xs, rfl, hs⟩

theorem run14_showb (v : Value) (l : List O12) (B : Nat) (w : World) (h : IsRecs encO B w v l) (hB : B ≤ 2932031007400) (hwf : ∀ o ∈ l, bdI o.count ∧ bdI o.size) :
    Calls Try.prog 9 #[v] w fun e w' => ∃ a c X b4, e = .returned (.tuple #[.slice a l.length c, .agg X]) ∧ OwnR 40 4 encA b4 w' (.slice a l.length c) (run14 newW l).2 ∧ Below w.heap.size w w' ∧ ShowX b4 w' (run14 newW l).1 X :=
  (run14_show v l B w h hB hwf).mono fun e w' ⟨a, c, X, h1, h2, h3, h4⟩ => ⟨a, c, X, _, h1, h2, h3, h4⟩

theorem keeps_setRow {w : World} {b : Nat} {Z Y : Array Value} {e : TypeId} (hz : w.heap[b]? = some (.cells Z e (0, 0))) : Keeps e w (w.setRow b Y) := fun h cc e' fr hh hne => by
  rw [setRow_other w b h Y ?_]
  · exact hh
  · intro hbb
    subst hbb
    rw [hz] at hh
    simp only [Option.some.injEq, Obj.cells.injEq] at hh
    exact hne hh.2.1.symm

theorem ShowX.keeps {base : Nat} {w w' : World} {S : W4} {X : Array Value} (h : ShowX base w S X) (hk : Keeps 34 w w') : ShowX base w' S X := by
  obtain ⟨xs, h1, h2⟩ := h
  refine ⟨xs, h1, h2.1, h2.2.1, fun i hi => ?_⟩
  obtain ⟨a, n, c, a', n', c', hs, hj⟩ := h2.2.2 i hi
  exact ⟨a, n, c, a', n', c', hs.keeps hk, hj⟩

/-- A variable of processes is written: what is there then. -/
def Fin (w : World) (b base : Nat) (v : Value) (A : List An) (S : W4) (Y : Array Value) : Prop :=
  w.heap[b]? = some (.cells Y 34 (0, 0)) ∧ OwnR 40 4 encA base w v A ∧ ShowX base w S Y

theorem fin_row {base b : Nat} {w4 wc : World} {v : Value} {A : List An} {S : W4} {Y Z : Array Value} (hb : Below w4.heap.size w4 wc) (hz : wc.heap[b]? = some (.cells Z 34 (0, 0))) (ho : OwnR 40 4 encA base w4 v A) (hs : ShowX base w4 S Y) :
    Fin (wc.setRow b Y) b base v A S Y :=
  ⟨setRow_heap _ _ _ _ _ _ hz, ownsRow_keeps (ho.below hb) (keeps_setRow hz) (by decide), (hs.below hb).keeps (keeps_setRow hz)⟩

theorem blk_kept {w w3 wc : World} {e e' : TypeId} {s : Nat} {Z : Array Value} {fr : Nat × Nat} (hk : Keeps e w w3) (hb : Below w3.heap.size w3 wc) (h : w.heap[s]? = some (.cells Z e' fr)) (hne : e' ≠ e) : wc.heap[s]? = some (.cells Z e' fr) := by
  have h3 := hk s Z e' fr h hne
  rw [hb.block s (Array.getElem?_eq_some_iff.1 h3).1]
  exact h3

theorem step_store_row {P : Program} {ops : Array Oper} {o : Oper} {a : Act} {w : World} {K : Act → World → Prop} {Q : Exit → Act → World → Prop} {E : Prop} (hgd : o.guard = none) (ty : TypeId) (x y : Operand) (ho : o.op = .store ty x y)
    (g : Nat) (cells : Array Value) (hx : a.eval x = .pointer (some ⟨g, 0, none⟩)) (hy : a.eval y = .agg cells)
    (t : TypeId) (old : Array Value) (hg : w.heap[g]? = some (.cells old t (0, 0))) (hi : (P.info? ty).map (·.size) = some cells.size)
    (hold : old.size = cells.size) (h1 : cells.all (·.oneCell') = true)
    (h : K (a.put o.dst undef) (w.setRow g cells)) : if Region.wanted o (yielded ops a.tmps) = true then o.wp P a w K Q else E := by
  have hw : Region.wanted o (yielded ops a.tmps) = true := by simp [Region.wanted, hgd]
  rw [if_pos hw]
  exact wp_store_row ty x y ho g cells hx hy t old hg hi hold h1 h

theorem cells_run {P : Program} {w : World} {b : Nat} {Z Y : Array Value} {t : TypeId} (hz : w.heap[b]? = some (.cells Z t (0, 0))) (hs : Z.size = Y.size) (h1 : Y.all (·.oneCell') = true) : (storeCells ⟨b, 0, none⟩ Y.toList).run P w = .ok () (w.setRow b Y) := by
  have := run_storeCells_from (P := P) b t Y.toList 0 Z w hz (by simp; omega) (fun v hv => (Array.all_eq_true_iff_forall_mem.1 h1) v (by simpa using hv))
  rw [this]
  simp

theorem upon_cells {P : Program} {o : Oper} {a : Act} {K : Act → World → Prop} {Q : Exit → Act → World → Prop} {w : World} {b : Nat} {Z Y : Array Value} {t : TypeId} {f : Unit → World → Result Next} (hz : w.heap[b]? = some (.cells Z t (0, 0))) (hs : Z.size = Y.size) (h1 : Y.all (·.oneCell') = true)
    (h : Oper.upon P o a K Q ((Result.ok () (w.setRow b Y)).andThen f)) : Oper.upon P o a K Q (((storeCells ⟨b, 0, none⟩ Y.toList).run P w).andThen f) := by
  rw [cells_run hz hs h1]
  exact h

theorem wpList_load_row_gf {P : Program} {ops : Array Oper} {rest : List Oper} {o : Oper} {a : Act} {w : World} {Q : Exit → Act → World → Prop} (ty : TypeId) (x : Operand) (ho : o.op = .load ty x) (hw : Region.wanted o (yielded ops a.tmps) = true)
    (g : Nat) (hx : a.eval x = .pointer (some ⟨g, 0, none⟩)) (t : TypeId) (cs : Array Value) (fr : Nat × Nat) (d : TypeDesc) (hg : w.heap[g]? = some (.cells cs t fr))
    (hu : P.underlying ty = some d) (hd : (match d with | .struct _ | .array _ _ => true | _ => false) = true) (hi : (P.info? ty).map (·.size) = some cs.size)
    (h : wpList P ops Q rest (a.put o.dst (.agg cs)) w) : wpList P ops Q (o :: rest) a w :=
  wpList_step fun K hK => by
    rw [if_pos hw]
    exact wp_load_row ty x ho g hx t cs fr d hg hu hd hi (hK _ _ h)

/-- A whole array that is loaded inside a region that draws its order. -/
theorem wpQuiet_load_row {P : Program} {ops : Array Oper} {C : World → Prop} {Q : Act → Prop} {rest : List Oper} {o : Oper} {a : Act} (hw : Region.wanted o (yielded ops a.tmps) = true) (ty : TypeId) (x : Operand) (ho : o.op = .load ty x)
    (g : Nat) (t : TypeId) (cs : Array Value) (fr : Nat × Nat) (d : TypeDesc) (hx : a.eval x = .pointer (some ⟨g, 0, none⟩)) (hg : ∀ w, C w → w.heap[g]? = some (.cells cs t fr))
    (hu : P.underlying ty = some d) (hd : (match d with | .struct _ | .array _ _ => true | _ => false) = true) (hi : (P.info? ty).map (·.size) = some cs.size)
    (h : wpQuiet P ops C Q rest (a.put o.dst (.agg cs))) : wpQuiet P ops C Q (o :: rest) a :=
  BigFrame.wpQuiet_want hw fun K hK => ⟨.agg cs, fun w hC => by
    unfold Oper.quietAt execOp
    simp only [ho, hx, Instr.loadAt, Instr.sureAddr, Sem.run_bind, Sem.run_pure, Result.andThen_ok, run_loadVar_row w g t ty cs fr d (hg w hC) hu hd hi]
    exact ⟨rfl, rfl⟩, hK _ h⟩

theorem show_facts {base : Nat} {w : World} {S : W4} {X : Array Value} (h : ShowX base w S X) : (Try.prog.info? 34).map (·.size) = some X.size ∧ X.size = 44 ∧ X.all (·.oneCell') = true := ⟨info_procs' h.size, h.size, h.one⟩

end Go.Proofs.Ytbiipnojhjhejaa

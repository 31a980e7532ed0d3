/- Several elements that are appended at once, in a region that draws its order. -/
import Derived.Test.YtbiipnojhjhejaaFlatBl
import Derived.Test.YtbiipnojhjhejaaFlatBackM
namespace Go.Proofs.Ytbiipnojhjhejaa
set_option maxRecDepth 100000
open Go.RowKit
set_option linter.unusedSimpArgs false
set_option linter.unusedVariables false

theorem step_append_keepsN {α : Type} {m : Nat} {enc : α → List Value} {P : Program} {ops : Array Oper} {o : Oper} {a : Act} {W : World} {K : Act → World → Prop} {Q : Exit → Act → World → Prop} {E : Prop} (S : Shape α m enc)
    (hg : o.guard = none) (s x : Operand) (t e : TypeId) (i : TypeInfo) (z : Value) (bytes : Nat) (hop : o.op = Op.call { callee := Callee.builtin Builtin.append, args := #[s, x], argTypes := #[t, t] })
    (ht : P.underlying t = some (.slice e)) (hi : P.info? e = some i) (hz0 : i.zero = some z) (hz1 : i.size = m) (hz2 : i.bytes = bytes) (hzs : z.cells.size = m)
    (base : Nat) (v : Value) (l : List α) (hs : a.eval s = v) (wr : World) (hown : OwnR e m enc base wr v l) (hbW : Below wr.heap.size wr W) (hbase : base ≤ wr.heap.size) (ps : List α) (k : Nat) (hk : ps.length = k) (hlen : (l.length + k) * bytes ≤ 140737488355328) (hlen2 : l.length + k ≤ maxLen)
    (ad : Addr) (c : Nat) (hx : a.eval x = .slice (some ad) k c) (hn : ∀ j u, (flatL enc ps)[j]? = some u → W.cell? (ad.add j) = some u)
    (h : ∀ v' w', OwnR e m enc base w' v' (l ++ ps) → Below base W w' → Keeps e W w' → K (a.put o.dst v') w') :
    if Region.wanted o (yielded ops a.tmps) = true then Oper.wp P o a W K Q else E := by
  have hw : Region.wanted o (yielded ops a.tmps) = true := by simp [Region.wanted, hg]
  have hbW2 := hbW.size
  rw [if_pos hw]
  refine wp_append_own W s x t hop base e i z m bytes ht hi hz0 hz1 hz2 hzs S.pos v l.length (flatL enc l) hs (hown.below hbW) ad k c (flatL enc ps) hx (by rw [flatL_len S, hk]) hn (flatL_ones S ps) hlen2 hlen (by omega) ?_
  intro v' w' hown' hgrow _
  refine h v' w' ?_ ((Below.refl _ _).grown hgrow (by omega) (fun k hk => (hown.lt k hk).1)) (keeps_of (hown.below hbW) hgrow)
  unfold OwnR
  rw [flatL_append, List.length_append, hk]
  exact hown'

theorem box_opsN (W w2 : World) (s : Nat) (hs : s = W.heap.size) (ps : List O12) (t : TypeId) (hb : Below (W.alloc (.cells (flatL encO ps).toArray t)).heap.size (W.alloc (.cells (flatL encO ps).toArray t)) w2) : ∀ j u, (flatL encO ps)[j]? = some u → w2.cell? (Addr.add ⟨s, 0, none⟩ j) = some u := by
  intro j u hj
  subst hs
  rw [add_none, Nat.zero_add]
  have h0 : OwnRow (W.alloc (.cells (flatL encO ps).toArray t)) W.heap.size t (flatL encO ps) := heap_alloc_new W _
  rw [(h0.below hb h0.lt).cell, hj]

theorem box_ops1N (W w2 : World) (s : Nat) (hs : s = W.heap.size + 1) (z : Obj) (ps : List O12) (t : TypeId) (hb : Below ((W.alloc z).alloc (.cells (flatL encO ps).toArray t)).heap.size ((W.alloc z).alloc (.cells (flatL encO ps).toArray t)) w2) : ∀ j u, (flatL encO ps)[j]? = some u → w2.cell? (Addr.add ⟨s, 0, none⟩ j) = some u :=
  box_opsN (W.alloc z) w2 s (by rw [World.size_alloc]; exact hs) ps t hb

end Go.Proofs.Ytbiipnojhjhejaa

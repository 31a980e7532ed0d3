/- The contract of slices.Insert of one block into a row of blocks that the call itself has made, and of buddy.insert. -/
import Derived.Test.YticmloddkngfnahBuddy6
import Derived.Lib.AppendZerosOnto
import Derived.Lib.Overlaps
import Derived.Laws.Externs
import Derived.Laws.IdiomCopy
import Derived.Lib.JoinLaws
import Derived.Deep.Upon
namespace Go.Proofs.Yticmloddkngfnah
open Go.RowKit
set_option linter.unusedSimpArgs false
set_option linter.unusedVariables false

/-- 'copy(d, s)' over slices of blocks: m of them go over. -/
theorem run_copy_blk (w : World) (ty : TypeId) (b o dLen dCap : Nat) (a : Addr) (sLen sCap m : Nat) (cs : List Value) (hm : m = Nat.min sLen dLen) (hn : cs.length = m * 2)
    (hsrc : ∀ j v, cs[j]? = some v → w.cell? (a.add j) = some v) (hc : ∀ j, j < cs.length → (w.cell? ⟨b, o + j, none⟩).isSome = true) (hf : ∀ j, j < cs.length → w.frozen? ⟨b, o + j, none⟩ = false) (h1 : ∀ v ∈ cs, v.oneCell' = true) :
    (Builtin.copy_ #[22, 22] ty #[.slice (some ⟨b, o, none⟩) dLen dCap, .slice (some a) sLen sCap]).run Try.prog w = .ok (goInt m) (w.setCells b o cs) := by
  obtain ⟨i0, hi, hz0, hz1, hz2⟩ := info_parts info_block
  have hl := run_loadCells_list (P := Try.prog) w a cs hsrc
  have hst := run_storeCells_cells (P := Try.prog) b o cs 0 w (by simpa using hc) (by simpa using hf) h1
  rw [hn] at hl
  simp [Builtin.copy_, run_underlying Try.underlying22, Builtin.lenOf, Builtin.firstCells, sizeOf, typeInfo, hi, hz1, ← hm, hl, hst]

theorem wpList_copy_run {w : World} {ops : Array Oper} {rest : List Oper} {o : Oper} {a : Act} {Q : Exit → Act → World → Prop} (hgd : o.guard = none) (d s : Operand) (t t' : TypeId)
    (ho : o.op = .call { callee := .builtin .copy, args := #[d, s], argTypes := #[t, t'] }) (v u : Value) (hd : a.eval d = v) (hs : a.eval s = u) {v' : Value} {w' : World}
    (hr : (Builtin.copy_ #[t, t'] o.type #[v, u]).run Try.prog w = .ok v' w') (h : wpList Try.prog ops Q rest (a.put o.dst v') w') : wpList Try.prog ops Q (o :: rest) a w := by
  refine wpList_plain hgd fun _ hK => ?_
  unfold Oper.wp execOp
  simp only [ho, resolve, invoke, builtin, Sem.run_bind, Sem.run_pure, Result.andThen_ok, List.map_toArray, List.map_cons, List.map_nil, hd, hs, hr]
  exact hK _ _ h

theorem step_copy_run {ops : Array Oper} {o : Oper} {a : Act} {w : World} {K : Act → World → Prop} {Q : Exit → Act → World → Prop} {E : Prop}
    (hg : o.guard = none) (d x : Operand) (dT sT : TypeId) (hop : o.op = Op.call { callee := Callee.builtin Builtin.copy, args := #[d, x], argTypes := #[dT, sT] })
    (v u : Value) (hd : a.eval d = v) (hx : a.eval x = u) {v' : Value} {w' : World} (hr : (Builtin.copy_ #[dT, sT] o.type #[v, u]).run Try.prog w = .ok v' w') (hK : K (a.put o.dst v') w') :
    if Region.wanted o (yielded ops a.tmps) = true then Oper.wp Try.prog o a w K Q else E := by
  have hw : Region.wanted o (yielded ops a.tmps) = true := by simp [Region.wanted, hg]
  rw [if_pos hw]
  unfold Oper.wp
  simp [execOp, hop, resolve, invoke, builtin, hd, hx, hr, Result.andThen]
  exact hK

set_option maxHeartbeats 800000 in
theorem insert_end (base : Nat) (v : Value) (l : List (Int × Int)) (p : Int × Int) (vb : Nat) (W : World) (h : OwnB base W v l) (hv : OwnRow W vb 45 [.int .i64 p.1, .int .i64 p.2]) (hl : l.length ≤ 1000000) (hbase : base ≤ W.heap.size) :
    Calls Try.prog 46 #[v, .int .i64 l.length, .slice (some ⟨vb, 0, none⟩) 1 1] W fun e w' => ∃ v', e = .returned v' ∧ OwnB base w' v' (l ++ [p]) ∧ Below base W w' := by
  have hvB : Hid (IsBlocks W (.slice (some ⟨vb, 0, none⟩) 1 1) [p]) := by
    refine ⟨_, _, rfl, by simp, by simp, fun _ => ⟨vb, 0, rfl, fun i hi => ?_⟩⟩
    obtain rfl : i = 0 := by simp at hi; omega
    exact ⟨by rw [hv.cell]; rfl, by rw [hv.cell]; rfl⟩
  have HO : Hid (OwnB base W v l) := h
  obtain ⟨a, n', c, rfl⟩ := h.form
  have hn : Hid (n' = l.length) := by
    rcases HO.out.2 with ⟨he, h0⟩ | ⟨g, cap, cur, he, -⟩
    · cases he; exact h0.symm
    · cases he; rfl
  have hnc : n' ≤ c := by
    rcases HO.out.2 with ⟨he, h0⟩ | ⟨g, cap, cur, he, -, -, h1, -⟩
    · cases he; exact Nat.le_refl _
    · cases he; rw [hn.out]; exact h1
  rw [← hn.out] at hl ⊢
  clear h hv
  have hlen : Hid (l.length + [p].length ≤ 8000000000000) := by show _ ≤ _; rw [← hn.out]; simp; omega
  cases a with
  | none =>
    go_enter Try.func46, Try.ntmps46
    go_wp2_with (at_builtin; go_must (refine wpList_append_blks rfl _ _ rfl base _ _ rfl HO.out _ _ rfl hvB.out hlen.out hbase ?_); intro v' w' hown' hbw')
    all_goals go_ret
    all_goals exact ⟨v', rfl, hown', hbw'⟩
  | some a =>
    obtain ⟨ab, ao, asp⟩ := a
    go_enter Try.func46, Try.ntmps46
    go_wp2_with (at_builtin; go_must (refine wpList_append_blks rfl _ _ rfl base _ _ rfl HO.out _ _ rfl hvB.out hlen.out hbase ?_); intro v' w' hown' hbw')
    all_goals go_ret
    all_goals exact ⟨v', rfl, hown', hbw'⟩

theorem OwnRow.shape {w : World} {g : Nat} {e : TypeId} {xs : List Value} (h : OwnRow w g e xs) : w.shape? g = some (e, xs.length) := by
  unfold OwnRow at h
  simp [World.shape?, h]

theorem overlaps_no (W : World) (vb g o la ca lb cb : Nat) (xs ys : List Value) (hv : OwnRow W vb 45 xs) (hr : OwnRow W g 45 ys) (hne : vb ≠ g) (hys : 0 < ys.length) :
    (callFunc 48 #[.slice (some ⟨vb, 0, none⟩) la ca, .slice (some ⟨g, o, none⟩) lb cb]).run Try.prog W = .ok (.value (.bool false)) W := by
  rw [run_callFunc_extern Try.func48 (by kernel_rfl) (by kernel_rfl) (by kernel_rfl) (e := Extern.SlicesOverlaps.overlaps #[22, 22] #[4]) (by kernel_rfl),
    Lib.run_overlaps_apart W 22 4 45 Try.underlying22 2 Try.sizeOf45 ⟨vb, 0, none⟩ ⟨g, o, none⟩ la ca lb cb hne _ _ _ _ hv.shape hr.shape (by omega) (hv.free _) (hv.free _)]
  rfl

theorem insert_flat {l : List (Int × Int)} {p : Int × Int} {xs : List Value} {i cap : Nat} (hi : i ≤ l.length) (hx : xs.length = cap * 2) (hc : l.length + 1 ≤ cap) (ht : xs.take (i * 2) = flat (l.take i)) (ys : List Value)
    (hy : ys = spl (spl xs ((i + 1) * 2) (flat (l.drop i))) (i * 2) [.int .i64 p.1, .int .i64 p.2]) : ys.length = cap * 2 ∧ ys.take ((l.length + 1) * 2) = flat (l.take i ++ [p] ++ l.drop i) := by
  have hdl : (flat (l.drop i)).length = (l.length - i) * 2 := by rw [flat_len, List.length_drop]
  have h1 : (i + 1) * 2 + (flat (l.drop i)).length ≤ xs.length := by rw [hdl, hx]; omega
  have hl1 := spl_len h1
  have h2 : i * 2 + [Value.int .i64 p.1, Value.int .i64 p.2].length ≤ (spl xs ((i + 1) * 2) (flat (l.drop i))).length := by rw [hl1, hx]; simp; omega
  refine ⟨by rw [hy, spl_len h2, hl1, hx], ?_⟩
  have e1 : (spl xs ((i + 1) * 2) (flat (l.drop i))).take (i * 2) = flat (l.take i) := by
    have := congrArg (List.take (i * 2)) (spl_take_lo (xs := xs) (o := (i + 1) * 2) (vs := flat (l.drop i)) (by omega))
    rw [List.take_take, List.take_take, Nat.min_eq_left (by omega), ht] at this
    exact this
  have e2 : ((spl xs ((i + 1) * 2) (flat (l.drop i))).drop ((i + 1) * 2)).take ((l.length - i) * 2) = flat (l.drop i) := by
    have := congrArg (List.drop ((i + 1) * 2)) (spl_take_hi (xs := xs) (o := (i + 1) * 2) (vs := flat (l.drop i)) (by omega))
    rw [List.drop_take, hdl] at this
    rw [show (i + 1) * 2 + (l.length - i) * 2 - (i + 1) * 2 = (l.length - i) * 2 by omega] at this
    rw [this, List.drop_left' (by rw [List.length_take]; omega)]
  rw [hy]
  generalize hz : spl xs ((i + 1) * 2) (flat (l.drop i)) = zs at *
  unfold spl
  rw [flat_append, flat_append, e1, ← e2]
  have hfl : (flat (l.take i)).length = i * 2 := by rw [flat_len, List.length_take]; omega
  rw [show (l.length + 1) * 2 = (flat (l.take i) ++ [Value.int .i64 p.1, Value.int .i64 p.2]).length + (l.length - i) * 2 by rw [List.length_append, hfl]; simp; omega]
  rw [List.take_append, List.take_of_length_le (by omega)]
  congr 1
  rw [Nat.add_sub_cancel_left, show i * 2 + [Value.int .i64 p.1, Value.int .i64 p.2].length = (i + 1) * 2 by simp only [List.length_cons, List.length_nil]; omega]

set_option maxHeartbeats 1600000 in
theorem insert_shift (base g cap : Nat) (l : List (Int × Int)) (i : Nat) (p : Int × Int) (vb : Nat) (W : World) (xs : List Value) (hb : base ≤ g) (hrow : OwnRow W g 45 xs) (hv : OwnRow W vb 45 [.int .i64 p.1, .int .i64 p.2]) (hne : vb ≠ g)
    (hi : i < l.length) (hl : l.length ≤ 1000000) (hroom : l.length + 1 ≤ cap) (h2 : cap ≤ maxLen) (h3 : xs.length = cap * 2) (h4 : xs.take (l.length * 2) = flat l) :
    Calls Try.prog 46 #[.slice (some ⟨g, 0, none⟩) l.length cap, .int .i64 i, .slice (some ⟨vb, 0, none⟩) 1 1] W fun e w' => ∃ v', e = .returned v' ∧ OwnB base w' v' (l.take i ++ [p] ++ l.drop i) ∧ Below base W w' := by
  obtain ⟨n, hn⟩ : ∃ n, Hid (n = l.length) := ⟨_, rfl⟩
  have htake : xs.take (i * 2) = flat (l.take i) := by rw [← flat_take, ← h4, List.take_take, Nat.min_eq_left (by omega)]
  obtain ⟨f1, f2⟩ := insert_flat (p := p) (by omega) h3 hroom htake _ rfl
  have hdl : (flat (l.drop i)).length = (l.length - i) * 2 := by rw [flat_len, List.length_drop]
  have hsrc1 : ∀ t u, (flat (l.drop i))[t]? = some u → W.cell? ⟨g, i * 2 + t, none⟩ = some u := by
    intro t u hu
    have ht : t < (flat (l.drop i)).length := (List.getElem?_eq_some_iff.1 hu).1
    rw [hdl] at ht
    rw [hrow.cell]
    rw [← flat_drop, ← h4, List.getElem?_drop, List.getElem?_take_of_lt (by omega)] at hu
    exact hu
  have hR1 := OwnRow.setCells (flat (l.drop i)) ((i + 1) * 2) W.drew xs hrow (by rw [hdl, h3]; omega)
  have hx1 : (spl xs ((i + 1) * 2) (flat (l.drop i))).length = cap * 2 := by rw [spl_len (by rw [hdl, h3]; omega), h3]
  obtain ⟨W1, hW1⟩ : ∃ W1, W1 = W.drew.setCells g ((i + 1) * 2) (flat (l.drop i)) := ⟨_, rfl⟩
  have hcp1 : ∀ ty dc sc, (Builtin.copy_ #[22, 22] ty #[.slice (some ⟨g, (i + 1) * 2, none⟩) (n - i) dc, .slice (some ⟨g, i * 2, none⟩) (n + 1 - i) sc]).run Try.prog W.drew = .ok (goInt ((n - i : Nat) : Int)) W1 := fun ty dc sc => by
    rw [hW1]
    exact run_copy_blk W.drew ty g ((i + 1) * 2) (n - i) dc ⟨g, i * 2, none⟩ (n + 1 - i) sc (n - i) (flat (l.drop i)) (by simp only [Nat.min_def]; split <;> omega) (by rw [hdl, hn.out])
      (fun t u hu => by rw [add_none]; exact hsrc1 t u hu) (fun t ht => xs_cell (w := W.drew) hrow (by rw [hdl] at ht; omega)) (fun t ht => hrow.free _) (flat_one _)
  rw [← hW1] at hR1
  have hR2 := OwnRow.setCells [.int .i64 p.1, .int .i64 p.2] (i * 2) W1 _ hR1 (by rw [hx1]; simp; omega)
  have hBW1 : Below base W W1 := by rw [hW1]; exact below_setCells hb _ _ W _ (Below.refl _ _).drew
  have hv1 : OwnRow W1 vb 45 [.int .i64 p.1, .int .i64 p.2] := by
    refine hv.of_block ?_
    rw [hW1]
    exact World.heap_setCells_other W.drew g _ _ hv.lt hne
  have hcp2 : ∀ ty dc, (Builtin.copy_ #[22, 22] ty #[.slice (some ⟨g, i * 2, none⟩) (n + 1 - i) dc, .slice (some ⟨vb, 0, none⟩) 1 1]).run Try.prog W1 = .ok (goInt 1) (W1.setCells g (i * 2) [.int .i64 p.1, .int .i64 p.2]) := fun ty dc =>
    run_copy_blk W1 ty g (i * 2) (n + 1 - i) dc ⟨vb, 0, none⟩ 1 1 1 _ (by simp only [Nat.min_def]; split <;> (have := hn.out; omega)) rfl
      (fun t u hu => by rw [add_none, hv1.cell]; simpa using hu) (fun t ht => xs_cell hR1 (by simp at ht; omega)) (fun t ht => hR1.free _) (by simp [Value.oneCell'])
  have hov : ∀ lb cb, (callFunc 48 #[.slice (some ⟨vb, 0, none⟩) 1 1, .slice (some ⟨g, (i + 1) * 2, none⟩) lb cb]).run Try.prog W = .ok (.value (.bool false)) W := fun lb cb => overlaps_no W vb g _ _ _ lb cb _ _ hv hrow hne (by omega)
  have hres : Hid (OwnB base (W1.setCells g (i * 2) [.int .i64 p.1, .int .i64 p.2]) (.slice (some ⟨g, 0, none⟩) (n + 1) cap) (l.take i ++ [p] ++ l.drop i)) := by
    have hel : (l.take i ++ [p] ++ l.drop i).length = n + 1 := by rw [List.length_append, List.length_append, List.length_take, List.length_drop, hn.out]; simp only [List.length_cons, List.length_nil]; omega
    have key := ownB_of_row (base := base) (cap := cap) (l := l.take i ++ [p] ++ l.drop i) hb hR2 (by rw [hel, hn.out]; exact hroom) h2 f1 (by rw [hel, hn.out]; exact f2)
    rw [hel] at key
    exact key
  rw [← hn.out] at hi hl hroom ⊢
  clear h4 htake f1 f2 hdl hsrc1 hx1 hR2 hrow hv hR1 hv1 h3
  have HW : Hid (W1 = W.drew.setCells g ((i + 1) * 2) (flat (l.drop i))) := hW1
  clear hW1
  unfold maxLen at h2
  have hw1 : IntKind.i64.wrap ((i : Int) + 1) = (i : Int) + 1 := by rw [IntKind.wrap_i64]; omega
  have hp1 : (0 : Int) ≤ (i : Int) + 1 := by omega
  have hin : i ≤ n := by omega
  have htn : ((i : Int) + 1).toNat = i + 1 := by omega
  have hb2 : ¬ (cap = i + 1) := by omega
  have hb3 : (i : Int) ≤ (n : Int) + 1 := by omega
  have hb4 : ¬ (cap = i) := by omega
  have hz2 : ¬ ((i : Int) = (n : Int)) := by omega
  go_enter Try.func46, Try.ntmps46
  go_wp2_with (simp only [hov])
  go_region_held3 (fun _ => True) (trivial)
    ((refine step_copy_run (by rfl) _ _ 22 22 (by rfl) _ _ (by rfl) (by rfl) (hcp1 _ _ _) ?_))
  go_wp2_with (refine wpList_copy_run (by rfl) _ _ 22 22 (by rfl) _ _ (by rfl) (by rfl) (hcp2 _ _) ?_)
  go_ret
  exact ⟨_, rfl, hres.out, below_setCells hb _ _ W _ hBW1⟩

theorem insert_flat2 {l : List (Int × Int)} {p : Int × Int} {xs : List Value} {i cap : Nat} (hi : i ≤ l.length) (hx : xs.length = cap * 2) (hc : l.length + 1 ≤ cap) (ht : xs.take (i * 2) = flat (l.take i)) (ys : List Value)
    (hy : ys = spl (spl xs (i * 2) [.int .i64 p.1, .int .i64 p.2]) ((i + 1) * 2) (flat (l.drop i))) : ys.length = cap * 2 ∧ ys.take ((l.length + 1) * 2) = flat (l.take i ++ [p] ++ l.drop i) := by
  have hdl : (flat (l.drop i)).length = (l.length - i) * 2 := by rw [flat_len, List.length_drop]
  have hpl : [Value.int .i64 p.1, Value.int .i64 p.2].length = 2 := rfl
  have hl1 : (spl xs (i * 2) [.int .i64 p.1, .int .i64 p.2]).length = cap * 2 := by rw [spl_len (by rw [hpl]; omega), hx]
  refine ⟨by rw [hy, spl_len (by rw [hl1, hdl]; omega), hl1], ?_⟩
  have h1 := spl_take_hi (xs := xs) (o := i * 2) (vs := [.int .i64 p.1, .int .i64 p.2]) (by omega)
  have h2 := spl_take_hi (xs := spl xs (i * 2) [.int .i64 p.1, .int .i64 p.2]) (o := (i + 1) * 2) (vs := flat (l.drop i)) (by omega)
  rw [hy, show (l.length + 1) * 2 = (i + 1) * 2 + (flat (l.drop i)).length by rw [hdl]; omega, h2, show (i + 1) * 2 = i * 2 + [Value.int .i64 p.1, Value.int .i64 p.2].length by rw [hpl]; omega, h1, ht, flat_append, flat_append]
  rfl

set_option maxHeartbeats 1600000 in
theorem insert_grow (base g cap : Nat) (l : List (Int × Int)) (i : Nat) (p : Int × Int) (vb : Nat) (W : World) (xs : List Value) (hbase : base ≤ W.heap.size) (hrow : OwnRow W g 45 xs) (hv : OwnRow W vb 45 [.int .i64 p.1, .int .i64 p.2])
    (hi : i < l.length) (hl : l.length ≤ 1000000) (hnc : l.length ≤ cap) (hroom : cap < l.length + 1) (h3 : xs.length = cap * 2) (h4 : xs.take (l.length * 2) = flat l) :
    Calls Try.prog 46 #[.slice (some ⟨g, 0, none⟩) l.length cap, .int .i64 i, .slice (some ⟨vb, 0, none⟩) 1 1] W fun e w' => ∃ v', e = .returned v' ∧ OwnB base w' v' (l.take i ++ [p] ++ l.drop i) ∧ Below base W w' := by
  obtain ⟨i0, hi0, hz0, hz1, hz2⟩ := info_parts info_block
  obtain ⟨n, hn⟩ : ∃ n, Hid (n = l.length) := ⟨_, rfl⟩
  have htake : xs.take (i * 2) = flat (l.take i) := by rw [← flat_take, ← h4, List.take_take, Nat.min_eq_left (by omega)]
  have hdl : (flat (l.drop i)).length = (l.length - i) * 2 := by rw [flat_len, List.length_drop]
  have htl : (flat (l.take i)).length = i * 2 := by rw [flat_len, List.length_take]; omega
  have hsrc1 : ∀ t u, (flat (l.drop i))[t]? = some u → W.cell? ⟨g, i * 2 + t, none⟩ = some u := by
    intro t u hu
    have ht : t < (flat (l.drop i)).length := (List.getElem?_eq_some_iff.1 hu).1
    rw [hdl] at ht
    rw [hrow.cell]
    rw [← flat_drop, ← h4, List.getElem?_drop, List.getElem?_take_of_lt (by omega)] at hu
    exact hu
  have hold : (Builtin.firstCells i0.size i (.slice (some ⟨g, 0, none⟩) i cap)).run Try.prog W.drew = .ok (flat (l.take i)).toArray W.drew := by
    rw [hz1]
    refine run_firstCells_some W.drew 2 i ⟨g, 0, none⟩ i cap (flat (l.take i)) htl (fun t u hu => ?_)
    rw [add_none]
    show W.cell? _ = _
    have ht : t < (flat (l.take i)).length := (List.getElem?_eq_some_iff.1 hu).1
    rw [htl] at ht
    rw [← htake, List.getElem?_take_of_lt ht] at hu
    rw [hrow.cell, Nat.zero_add]
    exact hu
  have hik : i + (n + 1 - i) = n + 1 := by have := hn.out; omega
  have hkk : (n : Int) + 1 - (i : Int) = ((n + 1 - i : Nat) : Int) := by have := hn.out; omega
  obtain ⟨G, hG⟩ : ∃ G, G = grownCap W (n + 1) cap 45 := ⟨_, rfl⟩
  have hGn : n + 1 ≤ G := by rw [hG]; exact grownCap_ge W _ _ _
  have hGm : G ≤ maxLen := by rw [hG]; exact grownCap_le_maxLen W _ _ _ (by unfold maxLen; have := hn.out; omega)
  obtain ⟨ROW, hROW⟩ : ∃ ROW : List Value, ROW.toArray = (flat (l.take i)).toArray ++ Builtin.zeroCells (Value.agg #[.int .i64 0, .int .i64 0]).cells (n + 1 - i) ++ Builtin.zeroCells (Value.agg #[.int .i64 0, .int .i64 0]).cells (G - (n + 1)) := ⟨_, Array.toArray_toList⟩
  have hrz : ∀ ty, (Builtin.append_ #[22, 3] ty #[.slice (some ⟨g, 0, none⟩) i cap, .int .i64 ((n : Int) + 1 - (i : Int))]).run Try.prog W =
      .ok (.slice (some ⟨W.heap.size, 0, none⟩) (n + 1) G) (W.drew.alloc (.cells ROW.toArray 45)) := fun ty => by
    have h := Lib.run_append_grow_zeros W 22 3 ty 45 i0 _ .i64 .i64 Try.underlying22 Try.underlying3 hi0 hz0 (some ⟨g, 0, none⟩) i cap (flat (l.take i)) hold (n + 1 - i) (by have := hn.out; omega) (by omega) (by have := hn.out; omega) (by have := hn.out; omega) (by rw [hz2]; have := hn.out; omega) (by rw [hz2, hik]; exact growslice_fits (by have := hn.out; omega) (by have := hn.out; omega))
    rw [hik, ← hG, ← hROW] at h
    rw [hkk]
    exact h
  have hRl : ROW.length = G * 2 := by
    have := congrArg Array.size hROW
    rw [Array.size_append, Array.size_append, size_zeroCells, size_zeroCells] at this
    simp [Value.cells, htl] at this
    have := hn.out
    omega
  have hRt : ROW.take (i * 2) = flat (l.take i) := by
    have := congrArg (fun a : Array Value => a.toList.take (i * 2)) hROW
    simp only [Array.toList_append] at this
    rw [List.append_assoc, List.take_append_of_le_length (by simp [htl])] at this
    rw [show ROW.take (i * 2) = ROW.toArray.toList.take (i * 2) from rfl, this]
    exact List.take_of_length_le (by simp [htl])
  obtain ⟨f1, f2⟩ := insert_flat2 (p := p) (by omega) hRl (by rw [← hn.out]; exact hGn) hRt _ rfl
  obtain ⟨W1, hW1⟩ : ∃ W1, W1 = W.drew.alloc (.cells ROW.toArray 45) := ⟨_, rfl⟩
  have hR0 : OwnRow W1 W.heap.size 45 ROW := by rw [hW1]; exact heap_alloc_new W.drew _
  have hB0 : Below W.heap.size W W1 := by rw [hW1]; exact ((Below.refl _ _).drew).alloc (Nat.le_refl _) _
  rw [← hW1] at hrz
  have hpl : [Value.int .i64 p.1, Value.int .i64 p.2].length = 2 := rfl
  have hin' : i < n := by rw [hn.out]; exact hi
  have hR1 := OwnRow.setCells [.int .i64 p.1, .int .i64 p.2] (i * 2) W1 _ hR0 (by rw [hRl, hpl]; omega)
  obtain ⟨W2, hW2⟩ : ∃ W2, W2 = W1.setCells W.heap.size (i * 2) [.int .i64 p.1, .int .i64 p.2] := ⟨_, rfl⟩
  rw [← hW2] at hR1
  have hB1 : Below W.heap.size W W2 := by rw [hW2]; exact below_setCells (Nat.le_refl _) _ _ _ _ hB0
  have hx1 : (spl ROW (i * 2) [.int .i64 p.1, .int .i64 p.2]).length = G * 2 := by rw [spl_len (by rw [hRl, hpl]; omega), hRl]
  have hcpA : ∀ ty dc, (Builtin.copy_ #[22, 22] ty #[.slice (some ⟨W.heap.size, i * 2, none⟩) (n + 1 - i) dc, .slice (some ⟨vb, 0, none⟩) 1 1]).run Try.prog W1 = .ok (goInt 1) W2 := fun ty dc => by
    rw [hW2]
    exact run_copy_blk W1 ty _ (i * 2) (n + 1 - i) dc ⟨vb, 0, none⟩ 1 1 1 _ (by simp only [Nat.min_def]; split <;> omega) rfl
      (fun t u hu => by rw [add_none, (hv.below hB0 hv.lt).cell]; simpa using hu) (fun t ht => xs_cell hR0 (by rw [hpl] at ht; omega)) (fun t ht => hR0.free _) (by simp [Value.oneCell'])
  have hR2 := OwnRow.setCells (flat (l.drop i)) ((i + 1) * 2) W2.drew _ hR1 (by rw [hx1, hdl, ← hn.out]; omega)
  have hcpB : ∀ ty dc sc, (Builtin.copy_ #[22, 22] ty #[.slice (some ⟨W.heap.size, (i + 1) * 2, none⟩) (n - i) dc, .slice (some ⟨g, i * 2, none⟩) (n - i) sc]).run Try.prog W2.drew = .ok (goInt ((n - i : Nat) : Int)) (W2.drew.setCells W.heap.size ((i + 1) * 2) (flat (l.drop i))) := fun ty dc sc => by
    exact run_copy_blk W2.drew ty _ ((i + 1) * 2) (n - i) dc ⟨g, i * 2, none⟩ (n - i) sc (n - i) _ (by simp only [Nat.min_def]; split <;> omega) (by rw [hdl, hn.out])
      (fun t u hu => by
        rw [add_none]
        have := hsrc1 t u hu
        rw [← this]
        exact hB1.cell (cell_lt this))
      (fun t ht => xs_cell (w := W2.drew) hR1 (by rw [hdl, ← hn.out] at ht; omega)) (fun t ht => hR1.free _) (flat_one _)
  have hBf : Below base W (W2.drew.setCells W.heap.size ((i + 1) * 2) (flat (l.drop i))) := below_setCells hbase _ _ W _ (hB1.drew.mono hbase)
  have hres : Hid (OwnB base (W2.drew.setCells W.heap.size ((i + 1) * 2) (flat (l.drop i))) (.slice (some ⟨W.heap.size, 0, none⟩) (n + 1) G) (l.take i ++ [p] ++ l.drop i)) := by
    have hel : (l.take i ++ [p] ++ l.drop i).length = n + 1 := by rw [List.length_append, List.length_append, List.length_take, List.length_drop, hn.out]; simp only [List.length_cons, List.length_nil]; omega
    have key := ownB_of_row (base := base) (cap := G) (l := l.take i ++ [p] ++ l.drop i) hbase hR2 (by rw [hel]; exact hGn) hGm f1 (by rw [hel, hn.out]; exact f2)
    rw [hel] at key
    exact key
  rw [← hn.out] at hi hl hroom hnc ⊢
  have HW1 : Hid (W1 = W.drew.alloc (.cells ROW.toArray 45)) := hW1
  clear h4 htake f1 f2 hdl htl hsrc1 hx1 hR2 hrow hv hR1 hR0 h3 hROW hRl hRt hold hG hW1 hW2 hkk hik
  unfold maxLen at hGm
  have hw1 : IntKind.i64.wrap ((i : Int) + 1) = (i : Int) + 1 := by rw [IntKind.wrap_i64]; omega
  have hp1 : (0 : Int) ≤ (i : Int) + 1 := by omega
  have hin : i ≤ n := by omega
  have htn : ((i : Int) + 1).toNat = i + 1 := by omega
  have hGi : ¬ (G = i) := by omega
  have hGim : ¬ (G = i + 1) := by omega
  have hci : ¬ (cap = i) := by omega
  have hb3 : (i : Int) ≤ (n : Int) := by omega
  have hb5 : (i : Int) + 1 ≤ (n : Int) + 1 := by omega
  have hz2 : ¬ ((i : Int) = (n : Int)) := by omega
  have hz3 : (cap : Int) < (n : Int) + 1 := by omega
  go_enter Try.func46, Try.ntmps46
  go_wp2_with (first
    | (at_builtin; refine Lib.wpList_append_run _ rfl _ _ _ _ rfl _ _ rfl rfl _ _ (hrz _) ?_)
    | (refine wpList_copy_run (by rfl) _ _ 22 22 (by rfl) _ _ (by rfl) (by rfl) (hcpA _ _) ?_))
  simp only [Act.put, List.setIfInBounds_toArray, List.set_cons_zero, List.set_cons_succ]
  go_region_held3 (fun _ => True) (trivial)
    ((refine step_copy_run (by rfl) _ _ 22 22 (by rfl) _ _ (by rfl) (by rfl) (hcpB _ _ _) ?_))
  go_wp2
  go_ret
  exact ⟨_, rfl, hres.out, hBf⟩

theorem insert_any (base : Nat) (v : Value) (l : List (Int × Int)) (i : Nat) (p : Int × Int) (vb : Nat) (W : World) (h : OwnB base W v l) (hv : OwnRow W vb 45 [.int .i64 p.1, .int .i64 p.2]) (hne : ∀ g, v.ownBlock = some g → vb ≠ g)
    (hi : i ≤ l.length) (hl : l.length ≤ 1000000) (hbase : base ≤ W.heap.size) :
    Calls Try.prog 46 #[v, .int .i64 i, .slice (some ⟨vb, 0, none⟩) 1 1] W fun e w' => ∃ v', e = .returned v' ∧ OwnB base w' v' (l.take i ++ [p] ++ l.drop i) ∧ Below base W w' := by
  by_cases hin : i = l.length
  · subst hin
    rw [List.take_length, List.drop_length, List.append_nil]
    exact insert_end base v l p vb W h hv hl hbase
  · obtain ⟨g, cap, xs, rfl, hb, hrow, h1, h2, h3, h4⟩ := h.row (by omega)
    by_cases hroom : l.length + 1 ≤ cap
    · exact insert_shift base g cap l i p vb W xs hb hrow hv (hne g rfl) (by omega) hl hroom h2 h3 h4
    · exact insert_grow base g cap l i p vb W xs hbase hrow hv (by omega) hl h1 (by omega) h3 h4

/-- The place of the first block that does not lie ahead of x. -/
def insIx (x : Int) (l : List (Int × Int)) : Nat := l.findIdx (fun p => !decide (p.1 < x))

set_option maxHeartbeats 800000 in
theorem binsert_any (base : Nat) (v : Value) (l : List (Int × Int)) (x y : Int) (w : World) (h : OwnB base w v l) (hl : l.length ≤ 1000000) (hbase : base ≤ w.heap.size) :
    Calls Try.prog 39 #[v, .agg #[.int .i64 x, .int .i64 y]] w fun e w' => ∃ v', e = .returned v' ∧ OwnB base w' v' (l.take (insIx x l) ++ [(x, y)] ++ l.drop (insIx x l)) ∧ Below base w w' := by
  have HO : Hid (OwnB base w v l) := h
  obtain ⟨a, cap, rfl, h1, hl2, hc'⟩ := h.blocks (by omega)
  obtain ⟨n, hn⟩ : ∃ n, Hid (n = l.length) := ⟨_, rfl⟩
  rw [← hn.out] at hl hc' h1 ⊢ HO
  clear h
  go_enter Try.func39, Try.ntmps39
  go_wp2_with fail
  go_loopw [5] (fun i wr => ∃ k : Nat, k ≤ n ∧ i = .int .i64 k ∧ Hid ((l.take k).any (fun p => !decide (p.1 < x)) = false) ∧ wr.cell? ⟨w.heap.size, 0, none⟩ = some (.int .i64 x) ∧ wr.cell? ⟨w.heap.size, 1, none⟩ = some (.int .i64 y) ∧ Below w.heap.size w wr) (fun i _ => n - (intOf i).toNat)
  case atStart => exact ⟨0, Nat.zero_le _, rfl, by simp [Hid], by simp, by simp, (Below.refl _ _).alloc (Nat.le_refl _) _⟩
  case round =>
    obtain ⟨k, hk, rfl, hno, hb0, hb1, hbel⟩ := hrel
    have hgt := cell_lt hb0
    have hfin : Hid (insIx x l = k → ∀ w2, Below wr.heap.size wr w2 → Calls Try.prog 46 #[.slice a n cap, .int .i64 k, .slice (some ⟨w2.heap.size, 0, none⟩) 1 1] (w2.alloc (.cells #[.int .i64 x, .int .i64 y] 45)) fun e w' => ∃ v', e = .returned v' ∧ OwnB base w' v' (l.take (insIx x l) ++ [(x, y)] ++ l.drop (insIx x l)) ∧ Below base w w') := by
      intro hix w2 hb2
      have hb3 : Below w.heap.size w (w2.alloc (.cells #[.int .i64 x, .int .i64 y] 45)) := (hbel.trans (hb2.mono hbel.size)).alloc (Nat.le_trans hbel.size hb2.size) _
      have ho3 := HO.out.below hb3
      rw [hix]
      have hs2 := hb2.size
      have hs1 := hbel.size
      refine (insert_any base _ l k (x, y) w2.heap.size _ ho3 (heap_alloc_new w2 _) (fun g hg => ?_) (by rw [← hn.out]; exact hk) (by rw [← hn.out]; exact hl) (Nat.le_trans hbase hb3.size)).mono ?_
      · have := (HO.out.lt g hg).2
        omega
      · rintro e w' ⟨v', rfl, ho, hb⟩
        exact ⟨v', rfl, ho, (hb3.mono hbase).trans hb⟩
    clear HO
    by_cases hlt : k < n
    · obtain ⟨b, off, rfl, hc⟩ := hc' (by omega)
      have hck := hc k hlt
      have HT : Hid _ := take_any (fun p => !decide (p.1 < x)) l (0, 0) k (by rw [← hn.out]; exact hlt)
      have HX : Hid ((!decide ((l.getD k (0, 0)).1 < x)) = true → insIx x l = k) := fun hf => findIdx_of_take _ l (0, 0) k (by rw [← hn.out]; exact hlt) hno.out hf
      obtain ⟨⟨px, py⟩, hp⟩ : ∃ p, p = l.getD k (0, 0) := ⟨_, rfl⟩
      rw [← hp] at hck HT HX
      clear hp
      simp only at hck HX
      have hk0 : wr.cell? ⟨b, off + k * 2, none⟩ = some (.int .i64 px) := (hbel.cell (cell_lt hck.1)).trans hck.1
      have hk1 : wr.cell? ⟨b, off + k * 2 + 1, none⟩ = some (.int .i64 py) := (hbel.cell (cell_lt hck.2)).trans hck.2
      clear hck
      by_cases hx : px < x
      · go_wp2_with fail
        refine wp_region_calm (by kernel_rfl) (by kernel_rfl) (fun W hW _ => ?_)
        have hbW : Below wr.heap.size wr W := by rw [hW]; exact Below.refl _ _
        have hc0 : ∀ u : Wd W, u.w.cell? ⟨b, off + k * 2, none⟩ = some (.int .i64 px) := fun u => u.cell ((hbW.cell (cell_lt hk0)).trans hk0)
        have hc1 : ∀ u : Wd W, u.w.cell? ⟨b, off + k * 2 + 1, none⟩ = some (.int .i64 py) := fun u => u.cell ((hbW.cell (cell_lt hk1)).trans hk1)
        have hc2 : ∀ u : Wd W, u.w.cell? ⟨w.heap.size, 0, none⟩ = some (.int .i64 x) := fun u => u.cell ((hbW.cell (cell_lt hb0)).trans hb0)
        have hc3 : ∀ u : Wd W, u.w.cell? ⟨w.heap.size, 1, none⟩ = some (.int .i64 y) := fun u => u.cell ((hbW.cell (cell_lt hb1)).trans hb1)
        clear hW
        repeat (go_big_quiet_step (fail))
        refine wpQuiet_nil ?_
        rintro w2 ⟨⟨_, hw2⟩, rfl⟩
        have hb2 : Below wr.heap.size wr w2 := hbW.trans (hw2.mono hbW.size)
        go_wp2
        go_roundw
        case rel => exact ⟨k + 1, by omega, by go_num, by show _ = _; rw [HT.out, hno.out]; simp [hx], (hb2.cell (cell_lt hb0)).trans hb0, (hb2.cell (cell_lt hb1)).trans hb1, hbel.trans (hb2.mono hbel.size)⟩
        case measure => simp [intOf]; omega
      · have hd : decide (px < x) = false := by simpa using hx
        have hix := HX.out (by simp [hd])
        have HIX : Hid (insIx x l = k) := hix
        clear hix
        go_wp2_with fail
        refine wp_region_calm (by kernel_rfl) (by kernel_rfl) (fun W hW _ => ?_)
        have hbW : Below wr.heap.size wr W := by rw [hW]; exact Below.refl _ _
        have hc0 : ∀ u : Wd W, u.w.cell? ⟨b, off + k * 2, none⟩ = some (.int .i64 px) := fun u => u.cell ((hbW.cell (cell_lt hk0)).trans hk0)
        have hc1 : ∀ u : Wd W, u.w.cell? ⟨b, off + k * 2 + 1, none⟩ = some (.int .i64 py) := fun u => u.cell ((hbW.cell (cell_lt hk1)).trans hk1)
        have hc2 : ∀ u : Wd W, u.w.cell? ⟨w.heap.size, 0, none⟩ = some (.int .i64 x) := fun u => u.cell ((hbW.cell (cell_lt hb0)).trans hb0)
        have hc3 : ∀ u : Wd W, u.w.cell? ⟨w.heap.size, 1, none⟩ = some (.int .i64 y) := fun u => u.cell ((hbW.cell (cell_lt hb1)).trans hb1)
        clear hW
        repeat (go_big_quiet_step (fail))
        refine wpQuiet_nil ?_
        rintro w2 ⟨⟨_, hw2⟩, rfl⟩
        have hb2 : Below wr.heap.size wr w2 := hbW.trans (hw2.mono hbW.size)
        have hB0 : w2.cell? ⟨w.heap.size, 0, none⟩ = some (.int .i64 x) := (hb2.cell (cell_lt hb0)).trans hb0
        have hB1 : w2.cell? ⟨w.heap.size, 1, none⟩ = some (.int .i64 y) := (hb2.cell (cell_lt hb1)).trans hb1
        go_wp2_with (go_at_call 46; refine (hfin.out HIX.out w2 hb2).mono ?_; rintro e w' ⟨v', rfl, ho, hb⟩)
        go_ret
        exact ⟨v', rfl, ho, hb⟩
    · obtain rfl : k = n := by omega
      have hix : insIx x l = k := by
        have := hno.out
        rw [List.take_of_length_le (by rw [← hn.out]; omega), List.any_eq_false] at this
        unfold insIx
        rw [hn.out]
        exact List.findIdx_eq_length.2 (fun p hp => by simpa using this p hp)
      have HIX : Hid (insIx x l = k) := hix
      clear hix hlt
      have hlt : decide ((k : Int) < (k : Int)) = false := by simp
      go_wp2_with fail
      refine wp_region_calm (by kernel_rfl) (by kernel_rfl) (fun W hW _ => ?_)
      have hbW : Below wr.heap.size wr W := by rw [hW]; exact Below.refl _ _
      have hc0 : ∀ u : Wd W, u.w.cell? ⟨w.heap.size, 0, none⟩ = some (.int .i64 x) := fun u => u.cell ((hbW.cell (cell_lt hb0)).trans hb0)
      have hc1 : ∀ u : Wd W, u.w.cell? ⟨w.heap.size, 1, none⟩ = some (.int .i64 y) := fun u => u.cell ((hbW.cell (cell_lt hb1)).trans hb1)
      clear hW
      repeat (go_big_quiet_step (fail))
      refine wpQuiet_nil ?_
      rintro w2 ⟨⟨_, hw2⟩, rfl⟩
      have hb2 : Below wr.heap.size wr w2 := hbW.trans (hw2.mono hbW.size)
      have hB0 : w2.cell? ⟨w.heap.size, 0, none⟩ = some (.int .i64 x) := (hb2.cell (cell_lt hb0)).trans hb0
      have hB1 : w2.cell? ⟨w.heap.size, 1, none⟩ = some (.int .i64 y) := (hb2.cell (cell_lt hb1)).trans hb1
      go_wp2_with (go_at_call 46; refine (hfin.out HIX.out w2 hb2).mono ?_; rintro e w' ⟨v', rfl, ho, hb⟩)
      go_ret
      exact ⟨v', rfl, ho, hb⟩

end Go.Proofs.Yticmloddkngfnah

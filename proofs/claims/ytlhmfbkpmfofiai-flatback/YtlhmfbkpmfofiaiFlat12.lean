/- The contract of flat.world.turn: what changes a process, or which live. -/
import Derived.Test.YtlhmfbkpmfofiaiFlatZero
namespace Go.Proofs.Ytlhmfbkpmfofiai
set_option maxRecDepth 100000
open Go.RowKit
set_option linter.unusedSimpArgs false
set_option linter.unusedVariables false

theorem chkP_pc {l r : List Value} (h : chkP l = some r) : PC l 0 noP (.slice none 0 0) ∧ (∀ i, l[4362 + i]? = r[i]?) ∧ ∀ i, i < 4362 → ∃ v, l[i]? = some v ∧ v.oneCell' = true := by
  unfold chkP at h
  simp only [Option.bind_eq_some_iff] at h
  obtain ⟨l1, h1, l2, h2, l3, h3, l4, h4, l5, h5, l6, h6, l7, h7, l8, h8, l9, h9, l10, h10, l11, h11, h12⟩ := h
  obtain ⟨g1, n1⟩ := chk_get h1
  obtain ⟨g2, n2⟩ := chk_get h2
  obtain ⟨g3, n3⟩ := chk_get h3
  obtain ⟨g4, n4⟩ := chk_get h4
  obtain ⟨g5, n5⟩ := chk_get h5
  obtain ⟨g6, n6⟩ := chk_get h6
  obtain ⟨g7, n7⟩ := chk_get h7
  obtain ⟨g8, n8⟩ := chk_get h8
  obtain ⟨g9, n9⟩ := chk_get h9
  obtain ⟨g10, n10⟩ := chk_get h10
  obtain ⟨g11, n11⟩ := chk_get h11
  obtain ⟨g12, n12⟩ := chk_get h12
  have m2 : ∀ i, l[2 + i]? = l2[i]? := fun i => by rw [show 2 + i = 1 + (1 + i) by omega, n1, n2]
  have m3 : ∀ i, l[3 + i]? = l3[i]? := fun i => by rw [show 3 + i = 2 + (1 + i) by omega, m2, n3]
  have m4 : ∀ i, l[4 + i]? = l4[i]? := fun i => by rw [show 4 + i = 3 + (1 + i) by omega, m3, n4]
  have m5 : ∀ i, l[5 + i]? = l5[i]? := fun i => by rw [show 5 + i = 4 + (1 + i) by omega, m4, n5]
  have m6 : ∀ i, l[6 + i]? = l6[i]? := fun i => by rw [show 6 + i = 5 + (1 + i) by omega, m5, n6]
  have m7 : ∀ i, l[7 + i]? = l7[i]? := fun i => by rw [show 7 + i = 6 + (1 + i) by omega, m6, n7]
  have m8 : ∀ i, l[8 + i]? = l8[i]? := fun i => by rw [show 8 + i = 7 + (1 + i) by omega, m7, n8]
  have m9 : ∀ i, l[9 + i]? = l9[i]? := fun i => by rw [show 9 + i = 8 + (1 + i) by omega, m8, n9]
  have m10 : ∀ i, l[10 + i]? = l10[i]? := fun i => by rw [show 10 + i = 9 + (1 + i) by omega, m9, n10]
  have m11 : ∀ i, l[4106 + i]? = l11[i]? := fun i => by rw [show 4106 + i = 10 + (4096 + i) by omega, m10, n11]
  have m12 : ∀ i, l[4362 + i]? = r[i]? := fun i => by rw [show 4362 + i = 4106 + (256 + i) by omega, m11, n12]
  have c0 : l[0]? = some (.bool false) := by obtain ⟨v, hv, hp⟩ := g1 0 (by decide); rw [hv, f0_eq hp]
  have c1 : l[1]? = some (.slice none 0 0) := by obtain ⟨v, hv, hp⟩ := g2 0 (by decide); have := n1 0; rw [this, hv, n0_eq hp]
  have c2 : l[2]? = some (.bool false) := by obtain ⟨v, hv, hp⟩ := g3 0 (by decide); have := m2 0; rw [this, hv, f0_eq hp]
  have c3 : l[3]? = some (.int .i64 0) := by obtain ⟨v, hv, hp⟩ := g4 0 (by decide); have := m3 0; rw [this, hv, i0_eq hp]
  have c4 : l[4]? = some (.bool false) := by obtain ⟨v, hv, hp⟩ := g5 0 (by decide); have := m4 0; rw [this, hv, f0_eq hp]
  have c5 : l[5]? = some (.int .i64 0) := by obtain ⟨v, hv, hp⟩ := g6 0 (by decide); have := m5 0; rw [this, hv, i0_eq hp]
  have c6 : l[6]? = some (.bool false) := by obtain ⟨v, hv, hp⟩ := g7 0 (by decide); have := m6 0; rw [this, hv, f0_eq hp]
  have c7 : l[7]? = some (.int .i64 0) := by obtain ⟨v, hv, hp⟩ := g8 0 (by decide); have := m7 0; rw [this, hv, i0_eq hp]
  have c8 : l[8]? = some (.bool false) := by obtain ⟨v, hv, hp⟩ := g9 0 (by decide); have := m8 0; rw [this, hv, f0_eq hp]
  have c9 : l[9]? = some (.int .i64 0) := by obtain ⟨v, hv, hp⟩ := g10 0 (by decide); have := m9 0; rw [this, hv, i0_eq hp]
  have cb : ∀ a, a < 4096 → l[10 + a]? = some (.int .u8 0) := fun a ha => by obtain ⟨v, hv, hp⟩ := g11 a ha; rw [m10, hv, u0_eq hp]
  have ct : ∀ a, a < 256 → l[4106 + a]? = some (.int .i64 0) := fun a ha => by obtain ⟨v, hv, hp⟩ := g12 a ha; rw [m11, hv, i0_eq hp]
  have hpc : PC l 0 noP (.slice none 0 0) := by
    refine ⟨c0, c1, fun i hi => ?_, fun a ha => by rw [Nat.zero_add]; exact cb a ha, fun a ha => by rw [Nat.zero_add]; exact ct a ha⟩
    rw [Nat.zero_add]
    match i, hi with
    | 0, _ => exact c2
    | 1, _ => exact c3
    | 2, _ => exact c4
    | 3, _ => exact c5
    | 4, _ => exact c6
    | 5, _ => exact c7
    | 6, _ => exact c8
    | 7, _ => exact c9
  refine ⟨hpc, m12, fun i hi => ?_⟩
  have hsome : ∃ v, l[i]? = some v := by
    by_cases h2 : i < 10
    · match i, h2 with
      | 0, _ => exact ⟨_, c0⟩
      | 1, _ => exact ⟨_, c1⟩
      | 2, _ => exact ⟨_, c2⟩
      | 3, _ => exact ⟨_, c3⟩
      | 4, _ => exact ⟨_, c4⟩
      | 5, _ => exact ⟨_, c5⟩
      | 6, _ => exact ⟨_, c6⟩
      | 7, _ => exact ⟨_, c7⟩
      | 8, _ => exact ⟨_, c8⟩
      | 9, _ => exact ⟨_, c9⟩
    · by_cases h3 : i < 4106
      · have := cb (i - 10) (by omega)
        rw [show 10 + (i - 10) = i by omega] at this
        exact ⟨_, this⟩
      · have := ct (i - 4106) (by omega)
        rw [show 4106 + (i - 4106) = i by omega] at this
        exact ⟨_, this⟩
  obtain ⟨v, hv⟩ := hsome
  exact ⟨v, hv, hpc.one rfl hi (by rw [Nat.zero_add]; exact hv)⟩

/-- A process leaves: nothing is there. -/
theorem WOK.gone {base g : Nat} {w : World} {S : W4} (h : WOK base g w S) {k : Nat} (hk : k < 4) {Z : Array Value} (hz : Z.size = 4362) (hc : chkP Z.toList = some []) : WOK base g (w.setCells g (k * 4362) Z.toList) (upd S k noP) := by
  obtain ⟨p1, p2, p3⟩ := chkP_pc hc
  have hl : Z.toList.length = 4362 := by simpa using hz
  have := h.splice (k := k) (i := 0) (vs := Z.toList) (p' := noP) hk (by omega) (fun xs u hly hp ho => ?_)
  · rw [Nat.add_zero] at this; exact this
  · refine ⟨.slice none 0 0, p1.move (fun j hj => ?_), ownR_nil _ _ _⟩
    rw [Nat.add_zero] at hly ⊢
    rw [spl_get hly, if_pos (by omega), show k * 4362 + j - k * 4362 = j by omega, Nat.zero_add]

theorem zero_one {Z : Array Value} (hz : Z.size = 4362) (hc : chkP Z.toList = some []) : Z.all (·.oneCell') = true := by
  obtain ⟨p1, p2, p3⟩ := chkP_pc hc
  refine Array.all_eq_true_iff_forall_mem.2 (fun v hv => ?_)
  obtain ⟨j, hj, he⟩ := List.getElem_of_mem (show v ∈ Z.toList by simpa using hv)
  obtain ⟨u, hu, h1⟩ := p3 j (by rw [← hz]; simpa using hj)
  rw [List.getElem?_eq_getElem hj, he] at hu
  cases hu
  exact h1

/-- 'T{..}': what is laid together, given ahead. -/
theorem wpList_build_is {P : Program} {ops : Array Oper} {rest : List Oper} {o : Oper} {a : Act} {w : World} {Q : Exit → Act → World → Prop} (hg : o.guard = none) (t : TypeId) (parts : Array (Nat × Operand)) (ho : o.op = .build t parts)
    (vs : List (Nat × Value)) (hvs : (parts.map fun (i, x) => (i, a.eval x)).toList = vs) (cells : Array Value) (hc : P.built t vs = some cells)
    (h : wpList P ops Q rest (a.put o.dst (.agg cells)) w) : wpList P ops Q (o :: rest) a w := by
  refine wpList_build hg t parts ho (by rw [hvs, hc]; rfl) ?_
  rw [hvs, hc]
  exact h

theorem own_if (S : W4) (k : Nat) (q : Pr) (v e : Int) : (if e = 0 then (q, v, (0 : Int)) else (S k, 0, e)).2.1 = (if e = 0 then v else 0) ∧ (if e = 0 then (q, v, (0 : Int)) else (S k, 0, e)).2.2 = e ∧ upd S k (if e = 0 then (q, v, (0 : Int)) else (S k, 0, e)).1 = if e = 0 then upd S k q else S := by
  by_cases h : e = 0
  · subst h; simp
  · simp only [if_neg h]; exact ⟨trivial, trivial, upd_self S k⟩

/-- What turn answers and leaves. -/
def tuV (S : W4) (k : Nat) (o : O12) : Int := if o.kind = 8 then (fork14 S (S k)).2.1 else (own14 S (S k) o).2.1
def tuE (S : W4) (k : Nat) (o : O12) : Int := if o.kind = 8 then (fork14 S (S k)).2.2 else (own14 S (S k) o).2.2
def tuS (S : W4) (k : Nat) (o : O12) : W4 := if o.kind = 8 then (fork14 S (S k)).1 else upd S k (own14 S (S k) o).1

theorem tu_1 (S : W4) (k : Nat) (o : O12) (h : o.kind = 1) : tuV S k o = (if mapE S (S k) o = 0 then mapF (S k) o else 0) ∧ tuE S k o = mapE S (S k) o ∧ tuS S k o = if mapE S (S k) o = 0 then upd S k (mapP (S k) o) else S := by
  unfold tuV tuE tuS own14
  rw [if_neg (show ¬ o.kind = 8 by omega), if_neg (show ¬ o.kind = 8 by omega), if_neg (show ¬ o.kind = 8 by omega)]
  simp only [h, show ¬ ((1 : Int) = 2) by decide]
  simp only [show ∀ a b : Int, (a = b) = (a = b) from fun _ _ => rfl, if_true, if_false, if_true]
  exact own_if S k _ _ _

theorem tu_2 (S : W4) (k : Nat) (o : O12) (h : o.kind = 2) : tuV S k o = (if unmE (S k) o = 0 then 0 else 0) ∧ tuE S k o = unmE (S k) o ∧ tuS S k o = if unmE (S k) o = 0 then upd S k (unmP (S k) o) else S := by
  unfold tuV tuE tuS own14
  rw [if_neg (show ¬ o.kind = 8 by omega), if_neg (show ¬ o.kind = 8 by omega), if_neg (show ¬ o.kind = 8 by omega)]
  simp only [h, show ¬ ((1 : Int) = 2) by decide]
  simp only [show ∀ a b : Int, (a = b) = (a = b) from fun _ _ => rfl, if_true, if_false, show ¬ ((2 : Int) = 1) by decide]
  exact own_if S k _ _ _

theorem tu_3 (S : W4) (k : Nat) (o : O12) (h : o.kind = 3) : tuV S k o = (if proE (S k) o = 0 then 0 else 0) ∧ tuE S k o = proE (S k) o ∧ tuS S k o = if proE (S k) o = 0 then upd S k (proP (S k) o) else S := by
  unfold tuV tuE tuS own14
  rw [if_neg (show ¬ o.kind = 8 by omega), if_neg (show ¬ o.kind = 8 by omega), if_neg (show ¬ o.kind = 8 by omega)]
  simp only [h, show ¬ ((1 : Int) = 2) by decide]
  simp only [show ∀ a b : Int, (a = b) = (a = b) from fun _ _ => rfl, if_true, if_false, show ¬ ((3 : Int) = 1) by decide, show ¬ ((3 : Int) = 2) by decide]
  exact own_if S k _ _ _

theorem tu_4 (S : W4) (k : Nat) (o : O12) (h : o.kind = 4) : tuV S k o = (if seaE (S k) o = 0 then 0 else 0) ∧ tuE S k o = seaE (S k) o ∧ tuS S k o = if seaE (S k) o = 0 then upd S k (seaP (S k) o) else S := by
  unfold tuV tuE tuS own14
  rw [if_neg (show ¬ o.kind = 8 by omega), if_neg (show ¬ o.kind = 8 by omega), if_neg (show ¬ o.kind = 8 by omega)]
  simp only [h, show ¬ ((1 : Int) = 2) by decide]
  simp only [show ∀ a b : Int, (a = b) = (a = b) from fun _ _ => rfl, if_true, if_false, show ¬ ((4 : Int) = 1) by decide, show ¬ ((4 : Int) = 2) by decide, show ¬ ((4 : Int) = 3) by decide]
  exact own_if S k _ _ _

theorem tu_5 (S : W4) (k : Nat) (o : O12) (h : o.kind = 5) : tuV S k o = (if nwE (S k).K = 0 then nwN (S k).K else 0) ∧ tuE S k o = nwE (S k).K ∧ tuS S k o = if nwE (S k).K = 0 then upd S k ({ S k with K := nwL (S k).K }) else S := by
  unfold tuV tuE tuS own14
  rw [if_neg (show ¬ o.kind = 8 by omega), if_neg (show ¬ o.kind = 8 by omega), if_neg (show ¬ o.kind = 8 by omega)]
  simp only [h, show ¬ ((1 : Int) = 2) by decide]
  simp only [show ∀ a b : Int, (a = b) = (a = b) from fun _ _ => rfl, if_true, if_false, show ¬ ((5 : Int) = 1) by decide, show ¬ ((5 : Int) = 2) by decide, show ¬ ((5 : Int) = 3) by decide, show ¬ ((5 : Int) = 4) by decide]
  exact own_if S k _ _ _

theorem tu_6 (S : W4) (k : Nat) (o : O12) (h : o.kind = 6) : tuV S k o = (if kfE (S k) o = 0 then 0 else 0) ∧ tuE S k o = kfE (S k) o ∧ tuS S k o = if kfE (S k) o = 0 then upd S k ({ S k with K := frL (S k).K o.key }) else S := by
  unfold tuV tuE tuS own14
  rw [if_neg (show ¬ o.kind = 8 by omega), if_neg (show ¬ o.kind = 8 by omega), if_neg (show ¬ o.kind = 8 by omega)]
  simp only [h, show ¬ ((1 : Int) = 2) by decide]
  simp only [show ∀ a b : Int, (a = b) = (a = b) from fun _ _ => rfl, if_true, if_false, show ¬ ((6 : Int) = 1) by decide, show ¬ ((6 : Int) = 2) by decide, show ¬ ((6 : Int) = 3) by decide, show ¬ ((6 : Int) = 4) by decide, show ¬ ((6 : Int) = 5) by decide]
  exact own_if S k _ _ _

theorem tu_7 (S : W4) (k : Nat) (o : O12) (h : o.kind = 7) : tuV S k o = (if stE (S k).K o.key o.rights = 0 then 0 else 0) ∧ tuE S k o = stE (S k).K o.key o.rights ∧ tuS S k o = if stE (S k).K o.key o.rights = 0 then upd S k ({ S k with K := stL (S k).K o.key o.rights }) else S := by
  unfold tuV tuE tuS own14
  rw [if_neg (show ¬ o.kind = 8 by omega), if_neg (show ¬ o.kind = 8 by omega), if_neg (show ¬ o.kind = 8 by omega)]
  simp only [h, show ¬ ((1 : Int) = 2) by decide]
  simp only [show ∀ a b : Int, (a = b) = (a = b) from fun _ _ => rfl, if_true, if_false, show ¬ ((7 : Int) = 1) by decide, show ¬ ((7 : Int) = 2) by decide, show ¬ ((7 : Int) = 3) by decide, show ¬ ((7 : Int) = 4) by decide, show ¬ ((7 : Int) = 5) by decide, show ¬ ((7 : Int) = 6) by decide]
  exact own_if S k _ _ _

theorem tu_8 (S : W4) (k : Nat) (o : O12) (h : o.kind = 8) : tuV S k o = (fork14 S (S k)).2.1 ∧ tuE S k o = (fork14 S (S k)).2.2 ∧ tuS S k o = (fork14 S (S k)).1 := by
  unfold tuV tuE tuS
  rw [if_pos h, if_pos h, if_pos h]
  exact ⟨rfl, rfl, rfl⟩

theorem tu_9 (S : W4) (k : Nat) (o : O12) (h : o.kind = 9) : tuV S k o = 0 ∧ tuE S k o = 0 ∧ tuS S k o = upd S k noP := by
  unfold tuV tuE tuS own14
  rw [if_neg (show ¬ o.kind = 8 by omega), if_neg (show ¬ o.kind = 8 by omega), if_neg (show ¬ o.kind = 8 by omega)]
  simp [h]

set_option maxHeartbeats 3200000 in
theorem turn14_any (base g : Nat) (S : W4) (k : Nat) (hk : k < 4) (o : O12) (hw1 : bdI o.count) (hkd : 1 ≤ o.kind ∧ o.kind ≤ 9) (w : World) (h : WOK base g w S) (hi : Inv S) :
    Calls Try.prog 27 #[.pointer (some ⟨g, 0, none⟩), .pointer (some ⟨g, k * 4362, none⟩), opV o] w fun e w' => e = .returned (.tuple #[.int .i64 (tuV S k o), .int .i64 (tuE S k o)]) ∧ WOK base g w' (tuS S k o) ∧ Spare g w w' := by
  have HW : Hid (∀ w1, Below w.heap.size w w1 → WOK base g w1 S) := fun w1 hb => h.below hb
  have hg := h.glt
  have hkk : o.kind = 1 ∨ o.kind = 2 ∨ o.kind = 3 ∨ o.kind = 4 ∨ o.kind = 5 ∨ o.kind = 6 ∨ o.kind = 7 ∨ o.kind = 8 ∨ o.kind = 9 := by omega
  rcases hkk with hh | hh | hh | hh | hh | hh | hh | hh | hh
  · obtain ⟨e1, e2, e3⟩ := tu_1 S k o hh
    have HC : Hid (∀ w1, Below w.heap.size w w1 → Calls Try.prog 36 #[.pointer (some ⟨g, 0, none⟩), .pointer (some ⟨g, k * 4362, none⟩), opV o] w1 fun e w' => e = .returned (.tuple #[.int .i64 (tuV S k o), .int .i64 (tuE S k o)]) ∧ WOK base g w' (tuS S k o) ∧ Spare g w1 w') := fun w1 hb => by rw [e1, e2, e3]; exact (mapNew_any base g S k hk o hw1 w1 (HW.out _ hb) hi)
    clear e1 e2 e3 h hi
    generalize tuV S k o = V at *
    generalize tuE S k o = E at *
    generalize tuS S k o = S2 at *
    obtain ⟨kind, proc, page, count, rights, key, tagged, draw, addr, size, value, tag⟩ := o
    simp only at hh
    subst hh
    have HBA : Hid (Below w.heap.size w (w.alloc (.cells #[.int .i64 1, .int .i64 proc, .int .i64 page, .int .i64 count, .int .i64 rights, .int .i64 key, .bool tagged, .int .i64 draw, .int .i64 addr, .int .i64 size, .int .i64 value, .int .i64 tag] 24))) := (Below.refl _ _).alloc (Nat.le_refl _) _
    go_enter Try.func27, Try.ntmps27
    go_wp2_with (go_at_call 36; refine (HC.out _ HBA.out).mono ?_; rintro e w1 ⟨rfl, hw1, hsp⟩)
    go_ret2
    exact ⟨rfl, hw1, (Spare.of_below HBA.out).trans hsp⟩
  · obtain ⟨e1, e2, e3⟩ := tu_2 S k o hh
    have HC : Hid (∀ w1, Below w.heap.size w w1 → Calls Try.prog 37 #[.pointer (some ⟨g, k * 4362, none⟩), opV o] w1 fun e w' => e = .returned (.int .i64 (tuE S k o)) ∧ WOK base g w' (tuS S k o) ∧ Spare g w1 w') := fun w1 hb => by rw [e2, e3]; exact (unmap14_any base g S k hk o hw1 w1 (HW.out _ hb) hi)
    have HV0 : Hid (tuV S k o = 0) := by show _ = _; rw [e1]; split <;> rfl
    clear e1 e2 e3 h hi
    generalize tuV S k o = V at *
    generalize tuE S k o = E at *
    generalize tuS S k o = S2 at *
    obtain ⟨kind, proc, page, count, rights, key, tagged, draw, addr, size, value, tag⟩ := o
    simp only at hh
    subst hh
    have HBA : Hid (Below w.heap.size w (w.alloc (.cells #[.int .i64 2, .int .i64 proc, .int .i64 page, .int .i64 count, .int .i64 rights, .int .i64 key, .bool tagged, .int .i64 draw, .int .i64 addr, .int .i64 size, .int .i64 value, .int .i64 tag] 24))) := (Below.refl _ _).alloc (Nat.le_refl _) _
    go_enter Try.func27, Try.ntmps27
    go_wp2_with (go_at_call 37; refine (HC.out _ HBA.out).mono ?_; rintro e w1 ⟨rfl, hw1, hsp⟩)
    go_ret2
    obtain rfl := HV0.out
    exact ⟨rfl, hw1, (Spare.of_below HBA.out).trans hsp⟩
  · obtain ⟨e1, e2, e3⟩ := tu_3 S k o hh
    have HC : Hid (∀ w1, Below w.heap.size w w1 → Calls Try.prog 38 #[.pointer (some ⟨g, k * 4362, none⟩), opV o] w1 fun e w' => e = .returned (.int .i64 (tuE S k o)) ∧ WOK base g w' (tuS S k o) ∧ Spare g w1 w') := fun w1 hb => by rw [e2, e3]; exact (protect14_any base g S k hk o hw1 w1 (HW.out _ hb) hi)
    have HV0 : Hid (tuV S k o = 0) := by show _ = _; rw [e1]; split <;> rfl
    clear e1 e2 e3 h hi
    generalize tuV S k o = V at *
    generalize tuE S k o = E at *
    generalize tuS S k o = S2 at *
    obtain ⟨kind, proc, page, count, rights, key, tagged, draw, addr, size, value, tag⟩ := o
    simp only at hh
    subst hh
    have HBA : Hid (Below w.heap.size w (w.alloc (.cells #[.int .i64 3, .int .i64 proc, .int .i64 page, .int .i64 count, .int .i64 rights, .int .i64 key, .bool tagged, .int .i64 draw, .int .i64 addr, .int .i64 size, .int .i64 value, .int .i64 tag] 24))) := (Below.refl _ _).alloc (Nat.le_refl _) _
    go_enter Try.func27, Try.ntmps27
    go_wp2_with (go_at_call 38; refine (HC.out _ HBA.out).mono ?_; rintro e w1 ⟨rfl, hw1, hsp⟩)
    go_ret2
    obtain rfl := HV0.out
    exact ⟨rfl, hw1, (Spare.of_below HBA.out).trans hsp⟩
  · obtain ⟨e1, e2, e3⟩ := tu_4 S k o hh
    have HC : Hid (∀ w1, Below w.heap.size w w1 → Calls Try.prog 39 #[.pointer (some ⟨g, k * 4362, none⟩), opV o] w1 fun e w' => e = .returned (.int .i64 (tuE S k o)) ∧ WOK base g w' (tuS S k o) ∧ Spare g w1 w') := fun w1 hb => by rw [e2, e3]; exact (seal14_any base g S k hk o hw1 w1 (HW.out _ hb) hi)
    have HV0 : Hid (tuV S k o = 0) := by show _ = _; rw [e1]; split <;> rfl
    clear e1 e2 e3 h hi
    generalize tuV S k o = V at *
    generalize tuE S k o = E at *
    generalize tuS S k o = S2 at *
    obtain ⟨kind, proc, page, count, rights, key, tagged, draw, addr, size, value, tag⟩ := o
    simp only at hh
    subst hh
    have HBA : Hid (Below w.heap.size w (w.alloc (.cells #[.int .i64 4, .int .i64 proc, .int .i64 page, .int .i64 count, .int .i64 rights, .int .i64 key, .bool tagged, .int .i64 draw, .int .i64 addr, .int .i64 size, .int .i64 value, .int .i64 tag] 24))) := (Below.refl _ _).alloc (Nat.le_refl _) _
    go_enter Try.func27, Try.ntmps27
    go_wp2_with (go_at_call 39; refine (HC.out _ HBA.out).mono ?_; rintro e w1 ⟨rfl, hw1, hsp⟩)
    go_ret2
    obtain rfl := HV0.out
    exact ⟨rfl, hw1, (Spare.of_below HBA.out).trans hsp⟩
  · obtain ⟨e1, e2, e3⟩ := tu_5 S k o hh
    have HC : Hid (∀ w1, Below w.heap.size w w1 → Calls Try.prog 40 #[.pointer (some ⟨g, k * 4362, none⟩)] w1 fun e w' => e = .returned (.tuple #[.int .i64 (tuV S k o), .int .i64 (tuE S k o)]) ∧ WOK base g w' (tuS S k o) ∧ Spare g w1 w') := fun w1 hb => by rw [show tuV S k o = nwN (S k).K by rw [e1]; unfold nwE nwN; split <;> simp, e2, e3]; exact (newKey_any base g S k hk w1 (HW.out _ hb))
    clear e1 e2 e3 h hi
    generalize tuV S k o = V at *
    generalize tuE S k o = E at *
    generalize tuS S k o = S2 at *
    obtain ⟨kind, proc, page, count, rights, key, tagged, draw, addr, size, value, tag⟩ := o
    simp only at hh
    subst hh
    have HBA : Hid (Below w.heap.size w (w.alloc (.cells #[.int .i64 5, .int .i64 proc, .int .i64 page, .int .i64 count, .int .i64 rights, .int .i64 key, .bool tagged, .int .i64 draw, .int .i64 addr, .int .i64 size, .int .i64 value, .int .i64 tag] 24))) := (Below.refl _ _).alloc (Nat.le_refl _) _
    go_enter Try.func27, Try.ntmps27
    go_wp2_with (go_at_call 40; refine (HC.out _ HBA.out).mono ?_; rintro e w1 ⟨rfl, hw1, hsp⟩)
    go_ret2
    exact ⟨rfl, hw1, (Spare.of_below HBA.out).trans hsp⟩
  · obtain ⟨e1, e2, e3⟩ := tu_6 S k o hh
    have HC : Hid (∀ w1, Below w.heap.size w w1 → Calls Try.prog 41 #[.pointer (some ⟨g, k * 4362, none⟩), opV o] w1 fun e w' => e = .returned (.int .i64 (tuE S k o)) ∧ WOK base g w' (tuS S k o) ∧ Spare g w1 w') := fun w1 hb => by rw [e2, e3]; exact (freeKey_any base g S k hk o w1 (HW.out _ hb) hi)
    have HV0 : Hid (tuV S k o = 0) := by show _ = _; rw [e1]; split <;> rfl
    clear e1 e2 e3 h hi
    generalize tuV S k o = V at *
    generalize tuE S k o = E at *
    generalize tuS S k o = S2 at *
    obtain ⟨kind, proc, page, count, rights, key, tagged, draw, addr, size, value, tag⟩ := o
    simp only at hh
    subst hh
    have HBA : Hid (Below w.heap.size w (w.alloc (.cells #[.int .i64 6, .int .i64 proc, .int .i64 page, .int .i64 count, .int .i64 rights, .int .i64 key, .bool tagged, .int .i64 draw, .int .i64 addr, .int .i64 size, .int .i64 value, .int .i64 tag] 24))) := (Below.refl _ _).alloc (Nat.le_refl _) _
    go_enter Try.func27, Try.ntmps27
    go_wp2_with (go_at_call 41; refine (HC.out _ HBA.out).mono ?_; rintro e w1 ⟨rfl, hw1, hsp⟩)
    go_ret2
    obtain rfl := HV0.out
    exact ⟨rfl, hw1, (Spare.of_below HBA.out).trans hsp⟩
  · obtain ⟨e1, e2, e3⟩ := tu_7 S k o hh
    have HC : Hid (∀ w1, Below w.heap.size w w1 → Calls Try.prog 42 #[.pointer (some ⟨g, k * 4362, none⟩), opV o] w1 fun e w' => e = .returned (.int .i64 (tuE S k o)) ∧ WOK base g w' (tuS S k o) ∧ Spare g w1 w') := fun w1 hb => by rw [e2, e3]; exact (setKey_any base g S k hk o w1 (HW.out _ hb) hi)
    have HV0 : Hid (tuV S k o = 0) := by show _ = _; rw [e1]; split <;> rfl
    clear e1 e2 e3 h hi
    generalize tuV S k o = V at *
    generalize tuE S k o = E at *
    generalize tuS S k o = S2 at *
    obtain ⟨kind, proc, page, count, rights, key, tagged, draw, addr, size, value, tag⟩ := o
    simp only at hh
    subst hh
    have HBA : Hid (Below w.heap.size w (w.alloc (.cells #[.int .i64 7, .int .i64 proc, .int .i64 page, .int .i64 count, .int .i64 rights, .int .i64 key, .bool tagged, .int .i64 draw, .int .i64 addr, .int .i64 size, .int .i64 value, .int .i64 tag] 24))) := (Below.refl _ _).alloc (Nat.le_refl _) _
    go_enter Try.func27, Try.ntmps27
    go_wp2_with (go_at_call 42; refine (HC.out _ HBA.out).mono ?_; rintro e w1 ⟨rfl, hw1, hsp⟩)
    go_ret2
    obtain rfl := HV0.out
    exact ⟨rfl, hw1, (Spare.of_below HBA.out).trans hsp⟩
  · obtain ⟨e1, e2, e3⟩ := tu_8 S k o hh
    have HC : Hid (∀ w1, Below w.heap.size w w1 → Calls Try.prog 43 #[.pointer (some ⟨g, 0, none⟩), .pointer (some ⟨g, k * 4362, none⟩)] w1 fun e w' => e = .returned (.tuple #[.int .i64 (tuV S k o), .int .i64 (tuE S k o)]) ∧ WOK base g w' (tuS S k o) ∧ Spare g w1 w') := fun w1 hb => by rw [e1, e2, e3]; exact (fork_any base g S k hk w1 (HW.out _ hb) hi)
    clear e1 e2 e3 h hi
    generalize tuV S k o = V at *
    generalize tuE S k o = E at *
    generalize tuS S k o = S2 at *
    obtain ⟨kind, proc, page, count, rights, key, tagged, draw, addr, size, value, tag⟩ := o
    simp only at hh
    subst hh
    have HBA : Hid (Below w.heap.size w (w.alloc (.cells #[.int .i64 8, .int .i64 proc, .int .i64 page, .int .i64 count, .int .i64 rights, .int .i64 key, .bool tagged, .int .i64 draw, .int .i64 addr, .int .i64 size, .int .i64 value, .int .i64 tag] 24))) := (Below.refl _ _).alloc (Nat.le_refl _) _
    go_enter Try.func27, Try.ntmps27
    go_wp2_with (go_at_call 43; refine (HC.out _ HBA.out).mono ?_; rintro e w1 ⟨rfl, hw1, hsp⟩)
    go_ret2
    exact ⟨rfl, hw1, (Spare.of_below HBA.out).trans hsp⟩
  · obtain ⟨e1, e2, e3⟩ := tu_9 S k o hh
    rw [e1, e2, e3]
    obtain ⟨Z, hZ⟩ : ∃ Z, Z = Try.zeroCells66 := ⟨_, rfl⟩
    have HZ : Hid (Z.size = 4362 ∧ chkP Z.toList = some [] ∧ Z.all (·.oneCell') = true) := by
      obtain ⟨z2, z3⟩ := zero_p
      rw [← hZ] at z2 z3
      exact ⟨z2, z3, zero_one z2 z3⟩
    have hzv : ∀ w : World, (zeroValue 66).run Try.prog w = .ok (.agg Z) w := fun w => by rw [hZ]; exact Try.zeroValue66 w
    clear e1 e2 e3 hi
    obtain ⟨kind, proc, page, count, rights, key, tagged, draw, addr, size, value, tag⟩ := o
    simp only at hh
    subst hh
    have HBA : Hid (Below w.heap.size w (w.alloc (.cells #[.int .i64 9, .int .i64 proc, .int .i64 page, .int .i64 count, .int .i64 rights, .int .i64 key, .bool tagged, .int .i64 draw, .int .i64 addr, .int .i64 size, .int .i64 value, .int .i64 tag] 24))) := (Below.refl _ _).alloc (Nat.le_refl _) _
    have HT : Hid ((w.alloc (.cells #[.int .i64 9, .int .i64 proc, .int .i64 page, .int .i64 count, .int .i64 rights, .int .i64 key, .bool tagged, .int .i64 draw, .int .i64 addr, .int .i64 size, .int .i64 value, .int .i64 tag] 24)).there g (k * 4362) Z.size) := (HW.out _ HBA.out).there (by rw [HZ.out.1]; omega)
    have HSZ : Hid ((Try.prog.info? 66).map (·.size) = some Z.size) := by show _ = _; rw [HZ.out.1]; exact info_process
    clear h
    go_enter Try.func27, Try.ntmps27
    go_wp2_with (first
      | (refine wpList_store_mid rfl 66 (.tmp 60) (.tmp 59) rfl g (k * 4362) Try.zeroCells66 rfl rfl (hZ ▸ HT.out) (hZ ▸ HSZ.out) (hZ ▸ HZ.out.2.2) ?_))
    go_ret2
    exact ⟨rfl, (HW.out _ HBA.out).gone hk zero_p.1 zero_p.2, (Spare.of_below HBA.out).setCells _ _⟩

end Go.Proofs.Ytlhmfbkpmfofiai

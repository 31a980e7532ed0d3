/- The contracts of swap.New, swap.Put, swap.Get, swap.Share and swap.Drop. -/
import Derived.Test.YtnmcbpanmjnegagSwap2
namespace Go.Proofs.Ytnmcbpanmjnegag
open Go.RowKit
set_option linter.unusedSimpArgs false
set_option linter.unusedVariables false

/-- 'make([]T, n)', T of m cells: a new row of zero values. -/
theorem wpList_make_zero {m : Nat} {P : Program} (w : World) {ops : Array Oper} {rest : List Oper} {o : Oper} {a : Act} {Q : Exit → Act → World → Prop}
    (hg : o.guard = none) (l c : Operand) (t : TypeId) (hop : o.op = Op.makeSlice t l c)
    (e : TypeId) (i : TypeInfo) (z : Value) (h1 : P.underlying t = some (.slice e)) (h2 : P.info? e = some i) (h3 : i.zero = some z) (h4 : i.size = m)
    (kl kc : IntKind) (L C : Nat) (hl : a.eval l = .int kl L) (hc : a.eval c = .int kc C) (hLC : L ≤ C) (b2 : i.bytes * C ≤ 281474976710656) (b3 : C ≤ maxLen)
    (hK : ∀ w', OwnRow w' w.heap.size e (madeCells z.cells (C * m)).toList → Below w.heap.size w w' → w'.heap.size = w.heap.size + 1 → wpList P ops Q rest (a.put o.dst (.slice (some ⟨w.heap.size, 0, none⟩) L C)) w') :
    wpList P ops Q (o :: rest) a w := by
  refine wpList_plain hg fun K hK' => ?_
  have b2' : (i.bytes : Int) * (C : Int) ≤ 281474976710656 := by rw [← Int.natCast_mul]; omega
  have b3' : (C : Int) ≤ 9223372036854775807 := by unfold maxLen at b3; omega
  have hrun := run_make (P := P) w t e i z h1 h2 h3 kl kc (L : Int) (C : Int) (by omega) (by omega) b2' b3'
  rw [Int.toNat_natCast, Int.toNat_natCast] at hrun
  unfold Oper.wp
  simp [execOp, hop, hl, hc, hrun, Result.andThen]
  refine hK' _ _ (hK _ ?_ ((Below.refl _ _).alloc (Nat.le_refl _) _) (by simp))
  unfold OwnRow
  rw [heap_alloc_new, h4]

/-- Nothing in any slot. -/
def noSlots : List Sl := List.replicate 64 z0

theorem made64 : (madeCells (Value.agg #[.int .i64 0, .slice none 0 0, .slice none 0 0]).cells (64 * 3)).toList = flatL encS (List.replicate 64 v0) := by kernel_rfl

theorem getD_rep {α : Type} (n i : Nat) (x : α) : (List.replicate n x).getD i x = x := by
  rw [List.getD_eq_getElem?_getD, List.getElem?_replicate]
  split <;> rfl

theorem slots64 {w : World} {g : Nat} {e : TypeId} (h : OwnRow w g e (madeCells (Value.agg #[.int .i64 0, .slice none 0 0, .slice none 0 0]).cells (64 * 3)).toList) : IsSlots w (.slice (some ⟨g, 0, none⟩) 64 64) noSlots := by
  rw [made64] at h
  refine ⟨List.replicate 64 v0, rfl, ⟨some ⟨g, 0, none⟩, 64, by rw [List.length_replicate], by simp, by simp, fun _ => ⟨g, 0, rfl, fun j u hj => ?_⟩⟩, fun i hi => ?_⟩
  · rw [Nat.zero_add, h.cell]; exact hj
  · rw [getD_rep, noSlots, getD_rep]; exact rd_zero w

set_option maxHeartbeats 400000 in
theorem new_any (w : World) :
    Calls Try.prog 19 #[] w fun e w' => ∃ g, e = .returned (.slice (some ⟨g, 0, none⟩) 64 64) ∧ IsSlots w' (.slice (some ⟨g, 0, none⟩) 64 64) noSlots ∧ Below w.heap.size w w' := by
  obtain ⟨i0, hi, hz0, hz1, hz2⟩ := info_parts info_slot
  go_enter Try.func19, Try.ntmps19
  go_wp2_with (at_make; refine wpList_make_zero _ rfl _ _ 30 rfl 42 i0 _ Try.underlying30 hi hz0 hz1 .i64 .i64 64 64 rfl rfl (Nat.le_refl _) (by rw [hz2]; decide) (by decide) ?_; intro w1 hrow hb1 hs1)
  go_ret
  exact ⟨_, rfl, slots64 hrow, hb1⟩

set_option maxHeartbeats 1600000 in
theorem put_any (v bv tv : Value) (l : List Sl) (bs ts : List Int) (r : Int) (w : World) (h : IsSlots w v l) (hb : IsBytes w bv bs) (ht : IsRecs encI 17592186043904 w tv ts) :
    Calls Try.prog 13 #[v, bv, tv, .int .i64 r] w fun e w' => ∃ a N c m n err, e = .returned (.tuple #[.slice a N c, .int .i64 n, .int .i64 err]) ∧ IsSlots w' (.slice a N c) m ∧ PutSays l bs ts r m n err ∧ Below w.heap.size w w' := by
  have HW : Hid (∀ (k : Nat) ba bc ta tc w1, bv = .slice ba bs.length bc → tv = .slice ta ts.length tc → Below w.heap.size w w1 → Calls Try.prog 27 #[v, .int .i64 k, .agg #[.int .i64 r, .slice ba bs.length bc, .slice ta ts.length tc]] w1 fun e w' => ∃ a N c, e = .returned (.slice a N c) ∧ IsSlots w' (.slice a N c) (l.set k (r, bs, ts)) ∧ Below w.heap.size w w') := by
    intro k ba bc ta tc w1 eb et hb1
    refine (with_any v l k r ba ta bs.length bc ts.length tc (r, bs, ts) w1 (h.below hb1) ⟨rfl, ?_, ?_⟩).mono ?_
    · have := hb.below hb1; rw [eb] at this; exact this
    · have := ht.below hb1; rw [et] at this; exact this
    · rintro e w' ⟨a, c, he, hs, hb2⟩
      exact ⟨a, _, c, he, hs, hb1.trans (hb2.mono hb1.size)⟩
  have HM : Hid (∀ (k : Nat) f w1, mt l (k : Int) = f → Below w.heap.size w w1 → Calls Try.prog 26 #[v, .int .i64 k] w1 fun e w' => e = .returned (.bool f) ∧ Below w.heap.size w w') := by
    intro k f w1 hf hb1
    refine (isMeant_is v l k w1 (h.below hb1) hf).mono ?_
    rintro e w' ⟨he, hb2⟩
    exact ⟨he, hb1.trans (hb2.mono hb1.size)⟩
  obtain ⟨a, cap, rfl⟩ := h.form
  obtain ⟨ba, bc, rfl⟩ := hb.form'
  obtain ⟨ta, tc, rfl⟩ := ht.form
  have hl := h.len
  have hbl : bs.length ≤ 140737488351232 := by obtain ⟨_, _, _, _, h2, _⟩ := hb; exact h2
  have htl := ht.len
  clear h hb ht
  have HB : Hid (putOk bs ts r = (decide (bs.length = 64) && (decide (ts.length = 4) && (decide (1 ≤ r) && decide (r ≤ 4))))) := rfl
  obtain ⟨N, hN⟩ : ∃ N, Hid (N = l.length) := ⟨_, rfl⟩
  obtain ⟨nb, hnb⟩ : ∃ N, Hid (N = bs.length) := ⟨_, rfl⟩
  obtain ⟨nt, hnt⟩ : ∃ N, Hid (N = ts.length) := ⟨_, rfl⟩
  rw [← hnb.out, ← hnt.out] at HW HB
  rw [← hN.out] at hl HW HM ⊢
  rw [← hnb.out] at hbl ⊢
  rw [← hnt.out] at htl ⊢
  by_cases c1 : nb = 64
  · by_cases c2 : nt = 4
    · by_cases c3 : 1 ≤ r
      · by_cases c4 : r ≤ 4
        · subst c1
          subst c2
          have HK : Hid (putOk bs ts r = true) := by show _ = _; rw [HB.out, decide_eq_true c3, decide_eq_true c4]; rfl
          clear HB
          go_enter Try.func13, Try.ntmps13
          go_wp2_with fail
          go_loopw [30] (fun i wr => ∃ (k : Nat), k ≤ N ∧ i = .int .i64 k ∧ Hid (∀ j, j < k → 1 ≤ (l.getD j z0).1) ∧ Below w.heap.size w wr) (fun i _ => N - (intOf i).toNat)
          case atStart => exact ⟨0, Nat.zero_le _, rfl, fun j hj => by omega, Below.refl _ _⟩
          case round =>
            obtain ⟨k, hk, rfl, hal, hbel⟩ := hrel
            by_cases hlt : k < N
            · have hkl : k < l.length := by rw [← hN.out]; exact hlt
              by_cases hp : 1 ≤ (l.getD k z0).1
              · have HC := HM.out k true wr (by rw [mt_nat hkl, decide_eq_true hp]) hbel
                have HA : Hid (∀ j, j < k + 1 → 1 ≤ (l.getD j z0).1) := fun j hj => by
                  by_cases he : j = k
                  · rw [he]; exact hp
                  · exact hal.out j (by omega)
                have HCC : Hid (Calls Try.prog 26 #[.slice a N cap, .int .i64 k] wr fun e w' => e = .returned (.bool true) ∧ Below w.heap.size w w') := HC
                clear HC hp hkl
                go_wp2_with fail
                refine HCC.out.mono ?_
                rintro e w2 ⟨rfl, hb2⟩
                go_wp2
                go_roundw
                case rel => exact ⟨k + 1, by omega, by go_num, HA.out, hb2⟩
                case measure => simp [intOf]; omega
              · have HC := HM.out k false wr (by rw [mt_nat hkl, decide_eq_false hp]) hbel
                have HCC : Hid (Calls Try.prog 26 #[.slice a N cap, .int .i64 k] wr fun e w' => e = .returned (.bool false) ∧ Below w.heap.size w w') := HC
                have HLe : Hid (Least l k) := ⟨hkl, by omega, hal.out⟩
                clear HC hp hkl
                go_wp2_with fail
                refine HCC.out.mono ?_
                rintro e w2 ⟨rfl, hb2⟩
                go_wp2_with fail
                refine (HW.out k ba bc ta tc w2 rfl rfl hb2).mono ?_
                rintro e w3 ⟨a', N', c', rfl, hs3, hb3⟩
                have HS : Hid (IsSlots w3 (.slice a' N' c') (l.set k (r, bs, ts))) := hs3
                clear hs3
                go_wp2
                go_ret3
                exact ⟨_, _, _, _, _, _, rfl, HS.out, Or.inr (Or.inr ⟨HK.out, k, HLe.out, rfl, rfl, rfl⟩), hb3⟩
            · have HA : Hid (AllM l) := fun j hj => hal.out j (by rw [← hN.out] at hj; omega)
              go_wp2
              go_ret3
              exact ⟨_, _, _, [], _, _, rfl, isSlots_nil _ _ _, Or.inr (Or.inl ⟨HK.out, HA.out, rfl, rfl, rfl⟩), hbel⟩
        · have HK : Hid (putOk bs ts r = false) := by show _ = _; rw [HB.out, decide_eq_false c4]; simp
          clear HB
          subst c1
          subst c2
          go_enter Try.func13, Try.ntmps13
          go_wp2
          go_ret3
          exact ⟨_, _, _, [], _, _, rfl, isSlots_nil _ _ _, Or.inl ⟨HK.out, rfl, rfl, rfl⟩, Below.refl _ _⟩
      · have HK : Hid (putOk bs ts r = false) := by show _ = _; rw [HB.out, decide_eq_false c3]; simp
        clear HB
        subst c1
        subst c2
        go_enter Try.func13, Try.ntmps13
        go_wp2
        go_ret3
        exact ⟨_, _, _, [], _, _, rfl, isSlots_nil _ _ _, Or.inl ⟨HK.out, rfl, rfl, rfl⟩, Below.refl _ _⟩
    · have HK : Hid (putOk bs ts r = false) := by show _ = _; rw [HB.out, decide_eq_false c2]; simp
      have c2' : ¬ (nt : Int) = 4 := by omega
      clear HB
      subst c1
      go_enter Try.func13, Try.ntmps13
      go_wp2
      go_ret3
      exact ⟨_, _, _, [], _, _, rfl, isSlots_nil _ _ _, Or.inl ⟨HK.out, rfl, rfl, rfl⟩, Below.refl _ _⟩
  · have HK : Hid (putOk bs ts r = false) := by show _ = _; rw [HB.out, decide_eq_false c1]; simp
    have c1' : ¬ (nb : Int) = 64 := by omega
    clear HB
    go_enter Try.func13, Try.ntmps13
    go_wp2
    go_ret3
    exact ⟨_, _, _, [], _, _, rfl, isSlots_nil _ _ _, Or.inl ⟨HK.out, rfl, rfl, rfl⟩, Below.refl _ _⟩

end Go.Proofs.Ytnmcbpanmjnegag

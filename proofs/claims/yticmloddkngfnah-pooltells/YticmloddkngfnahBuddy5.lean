/- The contracts of slices.Grow at nil, slices.Concat over slices of blocks, and buddy.Take. -/
import Derived.Test.YticmloddkngfnahBuddy4
namespace Go.Proofs.Yticmloddkngfnah
open Go.RowKit
set_option linter.unusedSimpArgs false

set_option maxHeartbeats 400000 in
theorem grow_nil (n : Nat) (w : World) (hn : n ≤ 8000000000000) :
    Calls Try.prog 42 #[.slice none 0 0, .int .i64 n] w fun e w' => ∃ v', e = .returned v' ∧ OwnB w.heap.size w' v' [] ∧ Below w.heap.size w w' := by
  obtain ⟨i0, hi, hz0, hz1, hz2⟩ := info_parts info_block
  by_cases h0 : 0 < n
  · have hrun : ∀ ty, (Builtin.append_ #[22, 3] ty #[.slice none 0 0, .int .i64 n]).run Try.prog w = _ := fun ty =>
      Lib.run_append_nil_zeros w 22 3 ty 45 i0 _ .i64 .i64 Try.underlying22 Try.underlying3 hi hz0 n h0 (by omega) (by omega) (by rw [hz2]; omega)
    have hge := grownCap_ge w n 0 45
    have hle := grownCap_le_maxLen w n 0 45 (by unfold maxLen; omega)
    obtain ⟨c, hc⟩ : ∃ c, c = grownCap w n 0 45 := ⟨_, rfl⟩
    rw [← hc] at hrun hge hle
    clear hc
    go_enter Try.func42, Try.ntmps42
    go_wp2_with (at_builtin; refine Lib.wpList_append_run _ rfl _ _ _ _ rfl _ _ rfl rfl _ _ (hrun _) ?_)
    go_ret
    refine ⟨_, rfl, ?_, ((Below.refl _ _).drew).alloc (Nat.le_refl _) _⟩
    refine ⟨rfl, Or.inr ⟨w.heap.size, c, _, rfl, Nat.le_refl _, heap_alloc_new w.drew _, Nat.zero_le _, hle, ?_, rfl⟩⟩
    rw [Array.size_append, size_zeroCells, size_zeroCells]
    simp [Value.cells]
    omega
  · obtain rfl : n = 0 := by omega
    go_enter Try.func42, Try.ntmps42
    go_wp2
    go_ret
    exact ⟨_, rfl, ⟨rfl, Or.inl ⟨rfl, rfl⟩⟩, Below.refl _ _⟩

theorem run_append_none (w : World) (base : Nat) (ty : TypeId) (c : Nat) (v : Value) (l : List (Int × Int)) (hown : OwnB base w v l) :
    (Builtin.append_ #[22, 22] ty #[v, .slice none 0 c]).run Try.prog w = .ok v w := by
  obtain ⟨i0, hi, hz0, hz1, hz2⟩ := info_parts info_block
  have ht := Try.underlying22
  rcases hown.2 with ⟨rfl, h0⟩ | ⟨g, cap, cur, rfl, _, _, hnc, _⟩
  · simp [Builtin.append_, run_underlying ht, sizeOf, typeInfo, hi, Builtin.lenOf, Builtin.firstCells]
  · simp [Builtin.append_, run_underlying ht, sizeOf, typeInfo, hi, Builtin.lenOf, Builtin.firstCells, hnc, storeCells]

/-- 'out = append(out, s...)', out nil or the call's own, s a slice of blocks. -/
theorem wpList_append_blks {w : World} {ops : Array Oper} {rest : List Oper} {o : Oper} {a : Act} {Q : Exit → Act → World → Prop} (hgd : o.guard = none) (s x : Operand)
    (ho : o.op = .call { callee := .builtin .append, args := #[s, x], argTypes := #[22, 22] })
    (base : Nat) (v : Value) (l : List (Int × Int)) (hs : a.eval s = v) (hown : OwnB base w v l) (u : Value) (m : List (Int × Int)) (hx : a.eval x = u) (hu : IsBlocks w u m)
    (hlen : l.length + m.length ≤ 8000000000000) (hbase : base ≤ w.heap.size)
    (h : ∀ v' w', OwnB base w' v' (l ++ m) → Below base w w' → wpList Try.prog ops Q rest (a.put o.dst v') w') : wpList Try.prog ops Q (o :: rest) a w := by
  obtain ⟨i0, hi, hz0, hz1, hz2⟩ := info_parts info_block
  obtain ⟨ad, cap, rfl, h1, hl, hc'⟩ := hu
  cases ad with
  | none =>
    by_cases hp : 0 < m.length
    · obtain ⟨b, off, hn, -⟩ := hc' hp
      cases hn
    · obtain rfl : m = [] := List.eq_nil_of_length_eq_zero (by omega)
      refine Lib.wpList_append_run w hgd s x _ _ ho _ _ hs hx v w (run_append_none w base o.type cap v l hown) ?_
      exact h v w (by simpa using hown) (Below.refl _ _)
  | some ad =>
    refine wpList_append_own w hgd s x _ ho base 45 i0 _ 2 16 Try.underlying22 hi hz0 hz1 hz2 rfl (by decide) v l.length (flat l) hs hown ad m.length cap (flat m) hx (flat_len m) ?_ (flat_one m) (by unfold maxLen; omega) (by omega) hbase ?_
    · intro j u hj
      have hlt : j < (flat m).length := (List.getElem?_eq_some_iff.1 hj).1
      rw [flat_len] at hlt
      obtain ⟨b, off, hn, hc⟩ := hc' (by omega)
      cases hn
      rw [add_none]
      exact flat_cells hc j u hj
    · intro v' w' hown' hgrow _
      refine h v' w' ?_ ((Below.refl _ _).grown hgrow hbase (fun k hk => (hown.lt k hk).1))
      unfold OwnB
      rw [flat_append, List.length_append]
      exact hown'

/-- How many there are in the first k lists. -/
def sumLen (ls : List (List (Int × Int))) : Nat → Nat
  | 0 => 0
  | k + 1 => sumLen ls k + (ls.getD k []).length

theorem sumLen_flat (ls : List (List (Int × Int))) : ∀ k, k ≤ ls.length → sumLen ls k = (ls.take k).flatten.length
  | 0, _ => by simp [sumLen]
  | k + 1, h => by
    rw [sumLen, sumLen_flat ls k (by omega), List.take_add_one, List.getElem?_eq_getElem (by omega), List.getD_eq_getElem?_getD, List.getElem?_eq_getElem (by omega)]
    rw [List.flatten_append, List.length_append]
    simp

theorem sumLen_mono (ls : List (List (Int × Int))) (k : Nat) : ∀ j, sumLen ls k ≤ sumLen ls (k + j)
  | 0 => Nat.le_refl _
  | j + 1 => by
    have := sumLen_mono ls k j
    rw [← Nat.add_assoc, sumLen]
    omega

set_option maxHeartbeats 800000 in
theorem concat_any (g off cap : Nat) (vs : List Value) (ls : List (List (Int × Int))) (w : World) (hn : ls.length ≤ 1000) (hsum : sumLen ls ls.length ≤ 8000000000000)
    (hc : ∀ i, i < ls.length → w.cell? ⟨g, off + i, none⟩ = some (vs.getD i undef) ∧ IsBlocks w (vs.getD i undef) (ls.getD i [])) :
    Calls Try.prog 32 #[.slice (some ⟨g, off, none⟩) ls.length cap] w fun e w' => ∃ v', e = .returned v' ∧ OwnB w.heap.size w' v' ls.flatten ∧ Below w.heap.size w w' := by
  obtain ⟨i0, hi, hz0, hz1, hz2⟩ := info_parts info_block
  obtain ⟨n, hnn⟩ : ∃ n, Hid (n = ls.length) := ⟨_, rfl⟩
  rw [← hnn.out] at hn hc hsum ⊢
  go_enter Try.func32, Try.ntmps32
  go_wp2_with fail
  go_loopw [3, 11] (fun s i wr => ∃ k : Nat, k ≤ n ∧ s = .int .i64 (sumLen ls k : Nat) ∧ i = .int .i64 k ∧ Below w.heap.size w wr) (fun _ i _ => n - (intOf i).toNat)
  case atStart => exact ⟨0, Nat.zero_le _, rfl, rfl, Below.refl _ _⟩
  case round =>
    obtain ⟨k, hk, rfl, rfl, hbel⟩ := hrel
    by_cases hlt : k < n
    · obtain ⟨hck, a, c, hv, h1, h2, -⟩ := hc k hlt
      have hm := sumLen_mono ls (k + 1) (n - (k + 1))
      rw [show k + 1 + (n - (k + 1)) = n by omega] at hm
      have hsk : sumLen ls (k + 1) = sumLen ls k + (ls.getD k []).length := rfl
      rw [hsk] at hm
      have HSK : Hid (sumLen ls (k + 1) = sumLen ls k + (ls.getD k []).length) := hsk
      clear hsk
      rw [hv] at hck
      have hk0 : wr.cell? ⟨g, off + k, none⟩ = some (.slice a (ls.getD k []).length c) := (hbel.cell (cell_lt hck)).trans hck
      obtain ⟨m, hme⟩ : ∃ m, m = (ls.getD k []).length := ⟨_, rfl⟩
      rw [← hme] at hm h1 h2 hk0 HSK
      clear hck hme hv
      go_wp2
      go_roundw
      case rel => exact ⟨k + 1, by omega, by rw [HSK.out]; go_num, by go_num, hbel⟩
      case measure => simp [intOf]; omega
    · obtain rfl : k = n := by omega
      go_wp2_with (go_at_call 42; refine (grow_nil _ _ hsum).mono ?_; rintro e w1 ⟨v1, rfl, hown1, hbel1⟩)
      go_loopw [6, 27] (fun v i wr => ∃ j : Nat, j ≤ k ∧ OwnB w.heap.size wr v (ls.take j).flatten ∧ i = .int .i64 j ∧ Below w.heap.size w wr) (fun _ i _ => k - (intOf i).toNat)
      case atStart => exact ⟨0, Nat.zero_le _, (hown1.mono hbel.size), rfl, hbel.trans (hbel1.mono hbel.size)⟩
      case round =>
        obtain ⟨j, hj, hown, rfl, hbel2⟩ := hrel
        by_cases hlt2 : j < k
        · obtain ⟨hck, hbs⟩ := hc j hlt2
          have hbs2 := hbs.below hbel2
          have hm := sumLen_mono ls (j + 1) (k - (j + 1))
          rw [show j + 1 + (k - (j + 1)) = k by omega] at hm
          have hsf := sumLen_flat ls j (by rw [← hnn.out]; omega)
          have hsk : sumLen ls (j + 1) = sumLen ls j + (ls.getD j []).length := rfl
          have HF : Hid ((ls.take (j + 1)).flatten = (ls.take j).flatten ++ ls.getD j []) := by
            show _ = _
            rw [List.take_add_one, List.getElem?_eq_getElem (by rw [← hnn.out]; omega), List.getD_eq_getElem?_getD, List.getElem?_eq_getElem (by rw [← hnn.out]; omega), List.flatten_append]
            simp
          have hlen : (ls.take j).flatten.length + (ls.getD j []).length ≤ 8000000000000 := by omega
          have hk0 : wr.cell? ⟨g, off + j, none⟩ = some (vs.getD j undef) := (hbel2.cell (cell_lt hck)).trans hck
          have hbase := hbel2.size
          obtain ⟨u, hu⟩ : ∃ u, u = vs.getD j undef := ⟨_, rfl⟩
          rw [← hu] at hk0 hbs2
          have HB : Hid (IsBlocks wr u (ls.getD j [])) := hbs2
          obtain ⟨ua, uc, rfl, -⟩ := hbs2
          clear hck hbs hu hm hsf hsk
          go_wp2_with (at_builtin; go_must (refine wpList_append_blks rfl _ _ rfl w.heap.size _ _ rfl hown _ _ rfl HB.out hlen hbase ?_); intro v' w' hown' hbw')
          go_roundw
          case rel => exact ⟨j + 1, by omega, by rw [HF.out]; exact hown', by go_num, hbel2.trans hbw'⟩
          case measure => simp [intOf]; omega
        · obtain rfl : j = k := by omega
          go_wp2
          go_ret
          refine ⟨_, rfl, ?_, hbel2⟩
          rw [List.take_of_length_le (by rw [← hnn.out]; omega)] at hown
          exact hown

theorem OwnB.form {base : Nat} {w : World} {v : Value} {l : List (Int × Int)} (h : OwnB base w v l) : ∃ a n c, v = .slice a n c := by
  rcases h.2 with ⟨rfl, -⟩ | ⟨g, cap, cur, rfl, -⟩
  · exact ⟨_, _, _, rfl⟩
  · exact ⟨_, _, _, rfl⟩

theorem IsBlocks.take {w : World} {b off n cap : Nat} {l : List (Int × Int)} (h : IsBlocks w (.slice (some ⟨b, off, none⟩) n cap) l) (i : Nat) (hi : i ≤ n) : IsBlocks w (.slice (some ⟨b, off, none⟩) i cap) (l.take i) := by
  obtain ⟨a, c, he, h1, hl, hc'⟩ := h
  simp only [Value.slice.injEq] at he
  obtain ⟨rfl, rfl, rfl⟩ := he
  have hlen : (l.take i).length = i := by rw [List.length_take]; omega
  refine ⟨_, _, by rw [hlen], by omega, by omega, fun hp => ⟨b, off, rfl, fun j hj => ?_⟩⟩
  rw [hlen] at hj hp
  obtain ⟨b', off', he, hc⟩ := hc' (by omega)
  simp only [Option.some.injEq, Addr.mk.injEq] at he
  obtain ⟨rfl, rfl, -⟩ := he
  have := hc j (by omega)
  rw [List.getD_eq_getElem?_getD] at this ⊢
  rw [List.getElem?_take_of_lt hj]
  exact this

theorem IsBlocks.drop {w : World} {b off n cap : Nat} {l : List (Int × Int)} (h : IsBlocks w (.slice (some ⟨b, off, none⟩) n cap) l) (i : Nat) (hi : i ≤ n) (A : Addr) (hA : A = if cap = i then ⟨b, off, none⟩ else ⟨b, off + i * 2, none⟩) :
    IsBlocks w (.slice (some A) (n - i) (cap - i)) (l.drop i) := by
  obtain ⟨a, c, he, h1, hl, hc'⟩ := h
  simp only [Value.slice.injEq] at he
  obtain ⟨rfl, rfl, rfl⟩ := he
  have hlen : (l.drop i).length = l.length - i := List.length_drop
  refine ⟨_, _, by rw [hlen], by omega, by omega, fun hp => ⟨b, off + i * 2, ?_, fun j hj => ?_⟩⟩
  · rw [hA, if_neg (by omega)]
  rw [hlen] at hj hp
  obtain ⟨b', off', he, hc⟩ := hc' (by omega)
  simp only [Option.some.injEq, Addr.mk.injEq] at he
  obtain ⟨rfl, rfl, -⟩ := he
  have := hc (i + j) (by omega)
  rw [List.getD_eq_getElem?_getD] at this ⊢
  rw [List.getElem?_drop, show off + i * 2 + j * 2 = off + (i + j) * 2 by omega]
  exact this

theorem concat3 (g cap : Nat) (s0 s1 s2 : Value) (l0 l1 l2 : List (Int × Int)) (W : World) (hs0 : W.cell? ⟨g, 0, none⟩ = some s0) (hs1 : W.cell? ⟨g, 1, none⟩ = some s1) (hs2 : W.cell? ⟨g, 2, none⟩ = some s2)
    (h0 : IsBlocks W s0 l0) (h1 : IsBlocks W s1 l1) (h2 : IsBlocks W s2 l2) (hsum : l0.length + l1.length + l2.length ≤ 8000000000000) :
    Calls Try.prog 32 #[.slice (some ⟨g, 0, none⟩) 3 cap] W fun e w' => ∃ v', e = .returned v' ∧ OwnB W.heap.size w' v' (l0 ++ l1 ++ l2) ∧ Below W.heap.size W w' := by
  have h := concat_any g 0 cap [s0, s1, s2] [l0, l1, l2] W (by simp) (by simpa [sumLen] using hsum) (fun i hi => by
    match i with
    | 0 => exact ⟨by simpa using hs0, by simpa using h0⟩
    | 1 => exact ⟨by simpa using hs1, by simpa using h1⟩
    | 2 => exact ⟨by simpa using hs2, by simpa using h2⟩
    | i + 3 => simp at hi; omega)
  simpa using h

/-- What Take leaves free. -/
def takeL (l : List (Int × Int)) (o : Int) : List (Int × Int) :=
  if rightB l && isOrd o && decide (0 ≤ bst o l l.length) then
    l.take (bst o l l.length).toNat ++ partL (l.getD (bst o l l.length).toNat (0, 0)).1 o ((l.getD (bst o l l.length).toNat (0, 0)).2 - o).toNat ++ l.drop ((bst o l l.length).toNat + 1)
  else []

/-- Where what Take takes begins. -/
def takeAt (l : List (Int × Int)) (o : Int) : Int :=
  if rightB l && isOrd o && decide (0 ≤ bst o l l.length) then (l.getD (bst o l l.length).toNat (0, 0)).1 else 0

/-- What Take answers besides. -/
def takeE (l : List (Int × Int)) (o : Int) : Int :=
  if rightB l then if isOrd o then if 0 ≤ bst o l l.length then 0 else 4 else 2 else 1

theorem right_is {f : Bool} (v : Value) (l : List (Int × Int)) (w : World) (h : IsBlocks w v l) (hf : rightB l = f) :
    Calls Try.prog 25 #[v] w fun e w' => e = .returned (.bool f) ∧ Below w.heap.size w w' := hf ▸ right_any v l w h

theorem rightB_blk {l : List (Int × Int)} (h : rightB l = true) : AllBlk l := by
  intro p hp
  obtain ⟨i, hi, rfl⟩ := List.getElem_of_mem hp
  have := rightB_iff.1 h i hi
  unfold okAt at this
  rw [List.getD_eq_getElem?_getD, List.getElem?_eq_getElem hi] at this
  simp only [Bool.and_eq_true, Option.getD_some] at this
  exact this.1

theorem right_at {l : List (Int × Int)} (h : rightB l = true) : ∀ i : Nat, i < l.length → (i : Int) ≤ (l.getD i (0, 0)).1
  | 0, hi => by
    have := isBlk_iff.1 ((rightB_blk h).get hi)
    simpa using this.2.2.1
  | i + 1, hi => by
    have ih := right_at h i (by omega)
    have hb := isBlk_iff.1 ((rightB_blk h).get (show i < l.length by omega))
    have hs := sz_bd hb.1 hb.2.1
    have := rightB_iff.1 h (i + 1) hi
    unfold okAt fol at this
    simp only [Nat.add_sub_cancel, Bool.and_eq_true, Bool.or_eq_true, decide_eq_true_eq] at this
    rcases this.2 with h' | h'
    · omega
    · push_cast
      omega

theorem right_len {l : List (Int × Int)} (h : rightB l = true) : l.length ≤ 64 := by
  by_cases h0 : l.length = 0
  · omega
  · have h1 := right_at h (l.length - 1) (by omega)
    have hb := isBlk_iff.1 ((rightB_blk h).get (show l.length - 1 < l.length by omega))
    have hs := sz_bd hb.1 hb.2.1
    omega

set_option maxHeartbeats 800000 in
theorem take_ok (v : Value) (l : List (Int × Int)) (o : Int) (w : World) (h : IsBlocks w v l) (hr : rightB l = true) (ho : isOrd o = true) (hb : 0 ≤ bst o l l.length) :
    Calls Try.prog 17 #[v, .int .i64 o] w fun e w' => ∃ v', e = .returned (.tuple #[v', .int .i64 (takeAt l o), .int .i64 0]) ∧ OwnB w.heap.size w' v' (takeL l o) ∧ Below w.heap.size w w' := by
  have hbd := bst_bd o l l.length
  obtain ⟨i, hi⟩ : ∃ i : Nat, bst o l l.length = i := ⟨_, (Int.toNat_of_nonneg hb).symm⟩
  have hL : Hid (takeL l o = l.take i ++ partL (l.getD i (0, 0)).1 o ((l.getD i (0, 0)).2 - o).toNat ++ l.drop (i + 1)) := by
    show _ = _
    simp [takeL, hr, ho, hi]
  have hAt : takeAt l o = (l.getD i (0, 0)).1 := by simp [takeAt, hr, ho, hi]
  rw [hAt]
  rw [hi] at hbd
  have hil : i < l.length := by omega
  have hblk := (rightB_blk hr).get hil
  have hI := h
  obtain ⟨a, cap, rfl, h1, hl, hc'⟩ := h
  obtain ⟨b, off, rfl, hc⟩ := hc' (by omega)
  have hci := hc i hil
  obtain ⟨⟨px, py⟩, hp⟩ : ∃ p, p = l.getD i (0, 0) := ⟨_, rfl⟩
  rw [← hp] at hL hblk hci ⊢
  simp only at hL hblk hci ⊢
  obtain ⟨q0, q6, qx0, qx, -⟩ := isBlk_iff.1 hblk
  have hqs := sz_bd q0 q6
  have hoo : 0 ≤ o ∧ o ≤ 6 := by simpa [isOrd] using ho
  have HI : Hid (bst o l l.length = (i : Int)) := hi
  clear hp hc' hAt hi hblk
  obtain ⟨n, hn⟩ : ∃ n, Hid (n = l.length) := ⟨_, rfl⟩
  have HIb : Hid (IsBlocks w (.slice (some ⟨b, off, none⟩) n cap) l) := by rw [hn.out]; exact hI
  have hbest : Hid (∀ w', IsBlocks w' (.slice (some ⟨b, off, none⟩) n cap) l → Calls Try.prog 30 #[.slice (some ⟨b, off, none⟩) n cap, .int .i64 o] w' fun e w2 => e = .returned (.int .i64 (i : Int)) ∧ Below w'.heap.size w' w2) := fun w' hw => HI.out ▸ best_any _ l o w' hw
  rw [← hn.out] at hl h1 hbd hil ⊢
  clear hI
  go_enter Try.func17, Try.ntmps17
  go_wp2_with fail
  refine (right_is _ l _ HIb.out hr).mono ?_
  rintro e w1 ⟨rfl, hb1⟩
  go_wp2_with fail
  refine (isOrder_is _ _ ho).mono ?_
  rintro e w1' ⟨rfl, rfl⟩
  go_wp2_with fail
  refine (hbest.out _ (HIb.out.below hb1)).mono ?_
  rintro e w2 ⟨rfl, hb2⟩
  have hb12 := hb1.trans (hb2.mono hb1.size)
  have hk0 : w2.cell? ⟨b, off + i * 2, none⟩ = some (.int .i64 px) := (hb12.cell (cell_lt hci.1)).trans hci.1
  have hk1 : w2.cell? ⟨b, off + i * 2 + 1, none⟩ = some (.int .i64 py) := (hb12.cell (cell_lt hci.2)).trans hci.2
  go_wp2_with fail
  refine (part_any _ _ _ _ q0 q6 qx0 (by omega) hoo.1 hoo.2).mono ?_
  rintro e w3 ⟨v3, rfl, hown3, hb3⟩
  obtain ⟨a3, n3, c3, rfl⟩ := hown3.form
  have HO3 : Hid (OwnB (w2.heap.size + 1) w3 (.slice a3 n3 c3) (partL px o (py - o).toNat)) := hown3
  clear hown3
  obtain ⟨A, hA, hAd⟩ : ∃ A : Addr, (if cap = i + 1 then some (⟨b, off, none⟩ : Addr) else some ⟨b, off + (i + 1) * 2, none⟩) = some A ∧ Hid (A = if cap = i + 1 then ⟨b, off, none⟩ else ⟨b, off + (i + 1) * 2, none⟩) := by
    by_cases hcap : cap = i + 1
    · exact ⟨_, by rw [if_pos hcap], by rw [if_pos hcap]; rfl⟩
    · exact ⟨_, by rw [if_neg hcap], by rw [if_neg hcap]; rfl⟩
  go_wp2_with fail
  have hb123 := hb12.trans (hb3.mono hb12.size)
  have hkk : w3.cell? ⟨b, off + i * 2, none⟩ = some (.int .i64 px) := (hb3.cell (cell_lt hk0)).trans hk0
  have hin : (i : Int) ≤ (n : Int) := by omega
  have hic : i ≤ cap := by omega
  have hw1 : IntKind.i64.wrap ((i : Int) + 1) = (i : Int) + 1 := by rw [IntKind.wrap_i64]; omega
  have hp1 : (0 : Int) ≤ (i : Int) + 1 := by omega
  have hle : (i : Int) + 1 ≤ (n : Int) := by omega
  have htn : ((i : Int) + 1).toNat = i + 1 := by omega
  have HC : Hid (Calls Try.prog 32 #[.slice (some ⟨w3.heap.size, 0, none⟩) 3 3] (w3.alloc (.cells #[.slice (some ⟨b, off, none⟩) i cap, .slice a3 n3 c3, .slice (some A) (n - (i + 1)) (cap - (i + 1))] 22)).drew fun e w' => ∃ v', e = .returned v' ∧ OwnB w3.heap.size w' v' (takeL l o) ∧ Below w3.heap.size w3 w') := by
    have hbb : Below w3.heap.size w3 (w3.alloc (.cells #[.slice (some ⟨b, off, none⟩) i cap, .slice a3 n3 c3, .slice (some A) (n - (i + 1)) (cap - (i + 1))] 22)).drew := ((Below.refl _ _).alloc (Nat.le_refl _) _).drew
    have hbl := (HIb.out.below hb123).below hbb
    have h3 := HO3.out.blocks (by rw [partL_len]; omega)
    have hlen := right_len hr
    rw [hL.out]
    refine (concat3 _ _ _ _ _ _ _ _ _ (by simp) (by simp) (by simp) (hbl.take i (by omega)) (h3.below hbb) (hbl.drop (i + 1) (by omega) A hAd.out) ?_).mono ?_
    · rw [partL_len, List.length_take, List.length_drop]; omega
    · rintro e w4 ⟨v4, rfl, hown4, hb4⟩
      exact ⟨v4, rfl, hown4.mono hbb.size, hbb.trans (hb4.mono hbb.size)⟩
  go_region_held3 (fun w' => w'.cell? ⟨b, off + i * 2, none⟩ = some (.int .i64 px) ∧ Below w3.heap.size w3 w') (first | exact ⟨hkk, (Below.refl _ _).drew⟩ | exact ⟨(((Below.refl w3.heap.size w3).alloc (Nat.le_refl _) _).cell (cell_lt hkk)).trans hkk, ((Below.refl w3.heap.size w3).alloc (Nat.le_refl _) _).drew⟩ | exact ⟨(hb4.cell (cell_lt hkk)).trans hkk, hb4⟩)
    (first | (go_at_call 32; refine (HC.out).mono ?_; rintro e w4 ⟨v4, rfl, hown4, hb4⟩))
  go_wp2
  go_ret3
  exact ⟨v4, rfl, hown4.mono hb123.size, hb123.trans (hb4.mono hb123.size)⟩

theorem btake_any (v : Value) (l : List (Int × Int)) (o : Int) (w : World) (h : IsBlocks w v l) :
    Calls Try.prog 17 #[v, .int .i64 o] w fun e w' => ∃ v', e = .returned (.tuple #[v', .int .i64 (takeAt l o), .int .i64 (takeE l o)]) ∧ OwnB w.heap.size w' v' (takeL l o) ∧ Below w.heap.size w w' := by
  have hnil : ∀ w', OwnB w.heap.size w' (.slice none 0 0) [] := fun w' => ⟨rfl, Or.inl ⟨rfl, rfl⟩⟩
  by_cases hr : rightB l = true
  · by_cases ho : isOrd o = true
    · by_cases hb : 0 ≤ bst o l l.length
      · have he : takeE l o = 0 := by simp [takeE, hr, ho, hb]
        rw [he]
        exact take_ok v l o w h hr ho hb
      · have he : takeE l o = 4 := by simp [takeE, hr, ho, hb]
        have hL : takeL l o = [] := by simp [takeL, hb]
        have hA : takeAt l o = 0 := by simp [takeAt, hb]
        rw [he, hL, hA]
        have hbd := bst_bd o l l.length
        have HM : Hid (bst o l l.length = -1) := by show _ = _; omega
        have hd : decide ((-1 : Int) < 0) = true := by decide
        have hbest : Hid (∀ w', IsBlocks w' v l → Calls Try.prog 30 #[v, .int .i64 o] w' fun e w2 => e = .returned (.int .i64 (-1)) ∧ Below w'.heap.size w' w2) := fun w' hw => HM.out ▸ best_any _ l o w' hw
        have HI : Hid (IsBlocks w v l) := h
        clear h hb hbd he hL hA
        go_enter Try.func17, Try.ntmps17
        go_wp2_with fail
        refine (right_is _ l _ HI.out hr).mono ?_
        rintro e w1 ⟨rfl, hb1⟩
        go_wp2_with fail
        refine (isOrder_is _ _ ho).mono ?_
        rintro e w1' ⟨rfl, rfl⟩
        go_wp2_with fail
        refine (hbest.out _ (HI.out.below hb1)).mono ?_
        rintro e w2 ⟨rfl, hb2⟩
        go_wp2
        go_ret3
        exact ⟨_, rfl, hnil _, hb1.trans (hb2.mono hb1.size)⟩
    · have ho' : isOrd o = false := by simpa using ho
      have he : takeE l o = 2 := by simp [takeE, hr, ho']
      have hL : takeL l o = [] := by simp [takeL, ho']
      have hA : takeAt l o = 0 := by simp [takeAt, ho']
      rw [he, hL, hA]
      have HI : Hid (IsBlocks w v l) := h
      clear h ho he hL hA
      go_enter Try.func17, Try.ntmps17
      go_wp2_with fail
      refine (right_is _ l _ HI.out hr).mono ?_
      rintro e w1 ⟨rfl, hb1⟩
      go_wp2_with fail
      refine (isOrder_is _ _ ho').mono ?_
      rintro e w1' ⟨rfl, rfl⟩
      go_wp2
      go_ret3
      exact ⟨_, rfl, hnil _, hb1⟩
  · have hr' : rightB l = false := by simpa using hr
    have he : takeE l o = 1 := by simp [takeE, hr']
    have hL : takeL l o = [] := by simp [takeL, hr']
    have hA : takeAt l o = 0 := by simp [takeAt, hr']
    rw [he, hL, hA]
    have HI : Hid (IsBlocks w v l) := h
    clear h hr he hL hA
    go_enter Try.func17, Try.ntmps17
    go_wp2_with fail
    refine (right_is _ l _ HI.out hr').mono ?_
    rintro e w1 ⟨rfl, hb1⟩
    go_wp2
    go_ret3
    exact ⟨_, rfl, hnil _, hb1⟩

end Go.Proofs.Yticmloddkngfnah

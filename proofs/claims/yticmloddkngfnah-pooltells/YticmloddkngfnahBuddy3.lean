/- The contracts of package buddy's best and Right and of slices.Equal: what each call returns, and that nothing that was there is written. -/
import Derived.Test.YticmloddkngfnahBuddy2
import Derived.Laws.StructEq
namespace Go.Proofs.Yticmloddkngfnah
open Go.RowKit
set_option linter.unusedSimpArgs false

/-- Whether the block at place i may stand there. -/
def okAt (l : List (Int × Int)) (i : Nat) : Bool :=
  isBlk (l.getD i (0, 0)).1 (l.getD i (0, 0)).2 && (decide (i = 0) || fol (l.getD (i - 1) (0, 0)).1 (l.getD (i - 1) (0, 0)).2 (l.getD i (0, 0)).1 (l.getD i (0, 0)).2)

/-- Whether l may be a list of what is free, as the program looks at it. -/
def rightB (l : List (Int × Int)) : Bool := (List.range l.length).all (okAt l)

theorem rightB_iff {l : List (Int × Int)} : rightB l = true ↔ ∀ i, i < l.length → okAt l i = true := by simp [rightB]

theorem isBlock_is {b : Bool} (x y : Int) (w : World) (h : isBlk x y = b) :
    Calls Try.prog 34 #[.agg #[.int .i64 x, .int .i64 y]] w fun e w' => e = .returned (.bool b) ∧ Below w.heap.size w w' := h ▸ isBlock_any x y w

theorem follows_is {f : Bool} (xa ya xb yb : Int) (w : World) (h0 : 0 ≤ ya) (h6 : ya ≤ 6) (hx0 : 0 ≤ xa) (hx : xa ≤ 64) (h : fol xa ya xb yb = f) :
    Calls Try.prog 41 #[.agg #[.int .i64 xa, .int .i64 ya], .agg #[.int .i64 xb, .int .i64 yb]] w fun e w' => e = .returned (.bool f) ∧ Below w.heap.size w w' := h ▸ follows_any xa ya xb yb w h0 h6 hx0 hx

set_option maxHeartbeats 400000 in
theorem right_any (v : Value) (l : List (Int × Int)) (w : World) (h : IsBlocks w v l) :
    Calls Try.prog 25 #[v] w fun e w' => e = .returned (.bool (rightB l)) ∧ Below w.heap.size w w' := by
  obtain ⟨a, cap, rfl, h1, hl, hc'⟩ := h
  obtain ⟨n, hn⟩ : ∃ n, Hid (n = l.length) := ⟨_, rfl⟩
  rw [← hn.out] at hl hc' ⊢
  go_enter Try.func25, Try.ntmps25
  go_wp2_with fail
  go_loopw [7] (fun i wr => ∃ k : Nat, k ≤ n ∧ i = .int .i64 k ∧ Hid (∀ i, i < k → okAt l i = true) ∧ Below w.heap.size w wr) (fun i _ => n - (intOf i).toNat)
  case atStart => exact ⟨0, Nat.zero_le _, rfl, fun i hi => by omega, Below.refl _ _⟩
  case round =>
    obtain ⟨k, hk, rfl, hok, hbel⟩ := hrel
    by_cases hlt : k < n
    · obtain ⟨b, off, rfl, hc⟩ := hc' (by omega)
      have hck := hc k hlt
      obtain ⟨⟨px, py⟩, hp⟩ : ∃ p, p = l.getD k (0, 0) := ⟨_, rfl⟩
      rw [← hp] at hck
      have HP : Hid ((px, py) = l.getD k (0, 0)) := hp
      clear hp
      simp only at hck
      have hk0 : wr.cell? ⟨b, off + k * 2, none⟩ = some (.int .i64 px) := (hbel.cell (cell_lt hck.1)).trans hck.1
      have hk1 : wr.cell? ⟨b, off + k * 2 + 1, none⟩ = some (.int .i64 py) := (hbel.cell (cell_lt hck.2)).trans hck.2
      clear hck
      by_cases hB : isBlk px py = true
      · by_cases hk00 : k = 0
        · have hd0 : decide (0 < k) = false := by simp; omega
          have HK : Hid (k = 0) := hk00
          clear hk00
          go_wp2_with fail
          refine wp_region_calm (by kernel_rfl) (by kernel_rfl) (fun W hW _ => ?_)
          have hbW : Below wr.heap.size wr W := by rw [hW]; exact (Below.refl _ _).alloc (Nat.le_refl _) _
          have hc0 : ∀ u : Wd W, u.w.cell? ⟨wr.heap.size, 0, none⟩ = some (.int .i64 px) := fun u => u.cell (by rw [hW]; simp)
          have hc1 : ∀ u : Wd W, u.w.cell? ⟨wr.heap.size, 1, none⟩ = some (.int .i64 py) := fun u => u.cell (by rw [hW]; simp)
          clear hW
          repeat (go_big_quiet_step (first | (go_at_call 34; exact calm_of (isBlock_is _ _ _ hB))))
          refine wpQuiet_nil ?_
          rintro w2 ⟨⟨_, hw2⟩, rfl⟩
          have hb2 : Below wr.heap.size wr w2 := hbW.trans (hw2.mono hbW.size)
          go_wp2
          go_roundw
          case rel =>
            refine ⟨k + 1, by omega, by go_num, fun i hi => ?_, hbel.trans (hb2.mono hbel.size)⟩
            have := HK.out
            obtain rfl : i = k := by omega
            unfold okAt
            rw [← HP.out]
            simp [hB, this]
          case measure => simp [intOf]; omega
        · have hprev := hc (k - 1) (by omega)
          have hokp := hok.out (k - 1) (by omega)
          obtain ⟨⟨rx, ry⟩, hr⟩ : ∃ p, p = l.getD (k - 1) (0, 0) := ⟨_, rfl⟩
          rw [← hr] at hprev
          have hRB : isBlk rx ry = true := by unfold okAt at hokp; rw [← hr] at hokp; simp only [Bool.and_eq_true] at hokp; exact hokp.1
          have HR : Hid ((rx, ry) = l.getD (k - 1) (0, 0)) := hr
          clear hr hokp
          simp only at hprev
          obtain ⟨q0, q6, qx0, qx, -⟩ := isBlk_iff.1 hRB
          have hqs := sz_bd q0 q6
          have hr0 : wr.cell? ⟨b, off + (k - 1) * 2, none⟩ = some (.int .i64 rx) := (hbel.cell (cell_lt hprev.1)).trans hprev.1
          have hr1 : wr.cell? ⟨b, off + (k - 1) * 2 + 1, none⟩ = some (.int .i64 ry) := (hbel.cell (cell_lt hprev.2)).trans hprev.2
          clear hprev
          obtain ⟨j, rfl⟩ : ∃ j, k = j + 1 := ⟨k - 1, by omega⟩
          rw [show j + 1 - 1 = j from rfl] at *
          have hgt : decide (((j + 1 : Nat) : Int) > 0) = true := by simp
          have hjn : j < n := by omega
          have hF : ∃ f, fol rx ry px py = f := ⟨_, rfl⟩
          obtain ⟨f, hF⟩ := hF
          cases f with
          | true =>
            go_wp2_with fail
            refine wp_region_calm (by kernel_rfl) (by kernel_rfl) (fun W hW _ => ?_)
            have hbW : Below wr.heap.size wr W := by rw [hW]; exact (Below.refl _ _).alloc (Nat.le_refl _) _
            have hc0 : ∀ u : Wd W, u.w.cell? ⟨b, off + j * 2, none⟩ = some (.int .i64 rx) := fun u => u.cell ((hbW.cell (cell_lt hr0)).trans hr0)
            have hc1 : ∀ u : Wd W, u.w.cell? ⟨b, off + j * 2 + 1, none⟩ = some (.int .i64 ry) := fun u => u.cell ((hbW.cell (cell_lt hr1)).trans hr1)
            have hc2 : ∀ u : Wd W, u.w.cell? ⟨wr.heap.size, 0, none⟩ = some (.int .i64 px) := fun u => u.cell (by rw [hW]; simp)
            have hc3 : ∀ u : Wd W, u.w.cell? ⟨wr.heap.size, 1, none⟩ = some (.int .i64 py) := fun u => u.cell (by rw [hW]; simp)
            clear hW
            repeat (go_big_quiet_step (first | (go_at_call 34; exact calm_of (isBlock_is _ _ _ hB)) | (go_at_call 41; exact calm_of (follows_is _ _ _ _ _ q0 q6 qx0 (by omega) hF))))
            refine wpQuiet_nil ?_
            rintro w2 ⟨⟨_, hw2⟩, rfl⟩
            have hb2 : Below wr.heap.size wr w2 := hbW.trans (hw2.mono hbW.size)
            go_wp2
            go_roundw
            case rel =>
              refine ⟨j + 1 + 1, by omega, by go_num, fun i hi => ?_, hbel.trans (hb2.mono hbel.size)⟩
              by_cases hij : i = j + 1
              · subst hij
                unfold okAt
                rw [show j + 1 - 1 = j from rfl, ← HP.out, ← HR.out]
                simp [hB, hF]
              · exact hok.out i (by omega)
            case measure => simp [intOf]; omega
          | false =>
            go_wp2_with fail
            refine wp_region_calm (by kernel_rfl) (by kernel_rfl) (fun W hW _ => ?_)
            have hbW : Below wr.heap.size wr W := by rw [hW]; exact (Below.refl _ _).alloc (Nat.le_refl _) _
            have hc0 : ∀ u : Wd W, u.w.cell? ⟨b, off + j * 2, none⟩ = some (.int .i64 rx) := fun u => u.cell ((hbW.cell (cell_lt hr0)).trans hr0)
            have hc1 : ∀ u : Wd W, u.w.cell? ⟨b, off + j * 2 + 1, none⟩ = some (.int .i64 ry) := fun u => u.cell ((hbW.cell (cell_lt hr1)).trans hr1)
            have hc2 : ∀ u : Wd W, u.w.cell? ⟨wr.heap.size, 0, none⟩ = some (.int .i64 px) := fun u => u.cell (by rw [hW]; simp)
            have hc3 : ∀ u : Wd W, u.w.cell? ⟨wr.heap.size, 1, none⟩ = some (.int .i64 py) := fun u => u.cell (by rw [hW]; simp)
            clear hW
            repeat (go_big_quiet_step (first | (go_at_call 34; exact calm_of (isBlock_is _ _ _ hB)) | (go_at_call 41; exact calm_of (follows_is _ _ _ _ _ q0 q6 qx0 (by omega) hF))))
            refine wpQuiet_nil ?_
            rintro w2 ⟨⟨_, hw2⟩, rfl⟩
            have hb2 : Below wr.heap.size wr w2 := hbW.trans (hw2.mono hbW.size)
            go_wp2
            go_ret
            refine ⟨ret_bool ?_, hbel.trans (hb2.mono hbel.size)⟩
            symm
            rw [Bool.eq_false_iff]
            intro hall
            have := rightB_iff.1 hall (j + 1) (by rw [← hn.out]; exact hlt)
            unfold okAt at this
            rw [show j + 1 - 1 = j from rfl, ← HP.out, ← HR.out] at this
            simp [hF] at this
      · have hB' : isBlk px py = false := by simpa using hB
        go_wp2_with fail
        refine wp_region_calm (by kernel_rfl) (by kernel_rfl) (fun W hW _ => ?_)
        have hbW : Below wr.heap.size wr W := by rw [hW]; exact (Below.refl _ _).alloc (Nat.le_refl _) _
        have hc0 : ∀ u : Wd W, u.w.cell? ⟨wr.heap.size, 0, none⟩ = some (.int .i64 px) := fun u => u.cell (by rw [hW]; simp)
        have hc1 : ∀ u : Wd W, u.w.cell? ⟨wr.heap.size, 1, none⟩ = some (.int .i64 py) := fun u => u.cell (by rw [hW]; simp)
        clear hW
        repeat (go_big_quiet_step (first | (go_at_call 34; exact calm_of (isBlock_is _ _ _ hB'))))
        refine wpQuiet_nil ?_
        rintro w2 ⟨⟨_, hw2⟩, rfl⟩
        have hb2 : Below wr.heap.size wr w2 := hbW.trans (hw2.mono hbW.size)
        go_wp2
        go_ret
        refine ⟨ret_bool ?_, hbel.trans (hb2.mono hbel.size)⟩
        symm
        rw [Bool.eq_false_iff]
        intro hall
        have := rightB_iff.1 hall k (by rw [← hn.out]; exact hlt)
        unfold okAt at this
        rw [← HP.out] at this
        simp [hB'] at this
    · go_wp2
      go_ret
      refine ⟨ret_bool ?_, hbel⟩
      symm
      exact rightB_iff.2 fun i hi => hok.out i (by rw [← hn.out] at hi; omega)

/-- The place of the block to take that order from among the first k, or -1. -/
def bst (o : Int) (l : List (Int × Int)) : Nat → Int
  | 0 => -1
  | k + 1 => if o ≤ (l.getD k (0, 0)).2 ∧ (bst o l k < 0 ∨ (l.getD k (0, 0)).2 < (l.getD (bst o l k).toNat (0, 0)).2) then (k : Int) else bst o l k

theorem bst_bd (o : Int) (l : List (Int × Int)) : ∀ k : Nat, -1 ≤ bst o l k ∧ bst o l k < (k : Int)
  | 0 => by simp [bst]
  | k + 1 => by
    have := bst_bd o l k
    simp only [bst]
    split <;> omega

set_option maxHeartbeats 800000 in
theorem best_any (v : Value) (l : List (Int × Int)) (o : Int) (w : World) (h : IsBlocks w v l) :
    Calls Try.prog 30 #[v, .int .i64 o] w fun e w' => e = .returned (.int .i64 (bst o l l.length)) ∧ Below w.heap.size w w' := by
  obtain ⟨a, cap, rfl, h1, hl, hc'⟩ := h
  obtain ⟨n, hn⟩ : ∃ n, Hid (n = l.length) := ⟨_, rfl⟩
  rw [← hn.out] at hl hc' ⊢
  go_enter Try.func30, Try.ntmps30
  go_wp2_with fail
  go_loopw [5, 10] (fun m i wr => ∃ k : Nat, k ≤ n ∧ m = .int .i64 (bst o l k) ∧ i = .int .i64 k ∧ Below w.heap.size w wr) (fun _ i _ => n - (intOf i).toNat)
  case atStart => exact ⟨0, Nat.zero_le _, rfl, rfl, Below.refl _ _⟩
  case round =>
    obtain ⟨k, hk, rfl, rfl, hbel⟩ := hrel
    by_cases hlt : k < n
    · obtain ⟨b, off, rfl, hc⟩ := hc' (by omega)
      have hck := hc k hlt
      obtain ⟨⟨px, py⟩, hp⟩ : ∃ p, p = l.getD k (0, 0) := ⟨_, rfl⟩
      rw [← hp] at hck
      have HP : Hid ((px, py) = l.getD k (0, 0)) := hp
      clear hp
      simp only at hck
      have hk0 : wr.cell? ⟨b, off + k * 2, none⟩ = some (.int .i64 px) := (hbel.cell (cell_lt hck.1)).trans hck.1
      have hk1 : wr.cell? ⟨b, off + k * 2 + 1, none⟩ = some (.int .i64 py) := (hbel.cell (cell_lt hck.2)).trans hck.2
      clear hck
      have hbd := bst_bd o l k
      have HB : Hid (bst o l (k + 1) = if o ≤ py ∧ (bst o l k < 0 ∨ py < (l.getD (bst o l k).toNat (0, 0)).2) then (k : Int) else bst o l k) := by
        show _ = _
        simp only [bst]
        rw [← HP.out]
      obtain ⟨m, hm⟩ : ∃ m, m = bst o l k := ⟨_, rfl⟩
      rw [← hm] at hbd HB ⊢
      clear hm
      by_cases ho : o ≤ py
      · by_cases hm0 : m < 0
        · have HM : Hid (bst o l (k + 1) = (k : Int)) := by show _ = _; rw [HB.out, if_pos ⟨ho, Or.inl hm0⟩]
          obtain rfl : m = -1 := by omega
          clear HB
          go_wp2_with fail
          refine wp_region_calm (by kernel_rfl) (by kernel_rfl) (fun W hW _ => ?_)
          have hbW : Below wr.heap.size wr W := by rw [hW]; exact (Below.refl _ _).alloc (Nat.le_refl _) _
          have hc0 : ∀ u : Wd W, u.w.cell? ⟨wr.heap.size, 0, none⟩ = some (.int .i64 px) := fun u => u.cell (by rw [hW]; simp)
          have hc1 : ∀ u : Wd W, u.w.cell? ⟨wr.heap.size, 1, none⟩ = some (.int .i64 py) := fun u => u.cell (by rw [hW]; simp)
          clear hW
          repeat (go_big_quiet_step (fail))
          refine wpQuiet_nil ?_
          rintro w2 ⟨⟨_, hw2⟩, rfl⟩
          have hb2 : Below wr.heap.size wr w2 := hbW.trans (hw2.mono hbW.size)
          go_wp2
          go_roundw
          case rel => exact ⟨k + 1, by omega, by rw [HM.out], by go_num, hbel.trans (hb2.mono hbel.size)⟩
          case measure => simp [intOf]; omega
        · obtain ⟨j, rfl⟩ : ∃ j : Nat, m = j := ⟨m.toNat, by omega⟩
          rw [Int.toNat_natCast] at HB
          have hprev := hc j (by omega)
          have hr1 : wr.cell? ⟨b, off + j * 2 + 1, none⟩ = some (.int .i64 (l.getD j (0, 0)).2) := (hbel.cell (cell_lt hprev.2)).trans hprev.2
          have hr0 : wr.cell? ⟨b, off + j * 2, none⟩ = some (.int .i64 (l.getD j (0, 0)).1) := (hbel.cell (cell_lt hprev.1)).trans hprev.1
          clear hprev
          obtain ⟨⟨rx, ry⟩, hr⟩ : ∃ p, p = l.getD j (0, 0) := ⟨_, rfl⟩
          rw [← hr] at hr0 hr1 HB
          clear hr
          simp only at hr0 hr1 HB
          have hjn : j < n := by omega
          have hj0 : decide ((j : Int) < 0) = false := by simp
          by_cases hlt2 : py < ry
          · have HM : Hid (bst o l (k + 1) = (k : Int)) := by show _ = _; rw [HB.out, if_pos ⟨ho, Or.inr hlt2⟩]
            clear HB
            go_wp2_with fail
            refine wp_region_calm (by kernel_rfl) (by kernel_rfl) (fun W hW _ => ?_)
            have hbW : Below wr.heap.size wr W := by rw [hW]; exact (Below.refl _ _).alloc (Nat.le_refl _) _
            have hc0 : ∀ u : Wd W, u.w.cell? ⟨b, off + j * 2, none⟩ = some (.int .i64 rx) := fun u => u.cell ((hbW.cell (cell_lt hr0)).trans hr0)
            have hc1 : ∀ u : Wd W, u.w.cell? ⟨b, off + j * 2 + 1, none⟩ = some (.int .i64 ry) := fun u => u.cell ((hbW.cell (cell_lt hr1)).trans hr1)
            have hc2 : ∀ u : Wd W, u.w.cell? ⟨wr.heap.size, 0, none⟩ = some (.int .i64 px) := fun u => u.cell (by rw [hW]; simp)
            have hc3 : ∀ u : Wd W, u.w.cell? ⟨wr.heap.size, 1, none⟩ = some (.int .i64 py) := fun u => u.cell (by rw [hW]; simp)
            clear hW
            repeat (go_big_quiet_step (fail))
            refine wpQuiet_nil ?_
            rintro w2 ⟨⟨_, hw2⟩, rfl⟩
            have hb2 : Below wr.heap.size wr w2 := hbW.trans (hw2.mono hbW.size)
            go_wp2
            go_roundw
            case rel => exact ⟨k + 1, by omega, by rw [HM.out], by go_num, hbel.trans (hb2.mono hbel.size)⟩
            case measure => simp [intOf]; omega
          · have HM : Hid (bst o l (k + 1) = (j : Int)) := by show _ = _; rw [HB.out, if_neg (by omega)]
            clear HB
            have hd : decide (py < ry) = false := by simpa using hlt2
            go_wp2_with fail
            refine wp_region_calm (by kernel_rfl) (by kernel_rfl) (fun W hW _ => ?_)
            have hbW : Below wr.heap.size wr W := by rw [hW]; exact (Below.refl _ _).alloc (Nat.le_refl _) _
            have hc0 : ∀ u : Wd W, u.w.cell? ⟨b, off + j * 2, none⟩ = some (.int .i64 rx) := fun u => u.cell ((hbW.cell (cell_lt hr0)).trans hr0)
            have hc1 : ∀ u : Wd W, u.w.cell? ⟨b, off + j * 2 + 1, none⟩ = some (.int .i64 ry) := fun u => u.cell ((hbW.cell (cell_lt hr1)).trans hr1)
            have hc2 : ∀ u : Wd W, u.w.cell? ⟨wr.heap.size, 0, none⟩ = some (.int .i64 px) := fun u => u.cell (by rw [hW]; simp)
            have hc3 : ∀ u : Wd W, u.w.cell? ⟨wr.heap.size, 1, none⟩ = some (.int .i64 py) := fun u => u.cell (by rw [hW]; simp)
            clear hW
            repeat (go_big_quiet_step (fail))
            refine wpQuiet_nil ?_
            rintro w2 ⟨⟨_, hw2⟩, rfl⟩
            have hb2 : Below wr.heap.size wr w2 := hbW.trans (hw2.mono hbW.size)
            go_wp2
            go_roundw
            case rel => exact ⟨k + 1, by omega, by rw [HM.out], by go_num, hbel.trans (hb2.mono hbel.size)⟩
            case measure => simp [intOf]; omega
      · have HM : Hid (bst o l (k + 1) = m) := by show _ = _; rw [HB.out, if_neg (by omega)]
        have hd : decide (py ≥ o) = false := by simpa using ho
        clear HB
        go_wp2_with fail
        refine wp_region_calm (by kernel_rfl) (by kernel_rfl) (fun W hW _ => ?_)
        have hbW : Below wr.heap.size wr W := by rw [hW]; exact (Below.refl _ _).alloc (Nat.le_refl _) _
        have hc0 : ∀ u : Wd W, u.w.cell? ⟨wr.heap.size, 0, none⟩ = some (.int .i64 px) := fun u => u.cell (by rw [hW]; simp)
        have hc1 : ∀ u : Wd W, u.w.cell? ⟨wr.heap.size, 1, none⟩ = some (.int .i64 py) := fun u => u.cell (by rw [hW]; simp)
        clear hW
        repeat (go_big_quiet_step (fail))
        refine wpQuiet_nil ?_
        rintro w2 ⟨⟨_, hw2⟩, rfl⟩
        have hb2 : Below wr.heap.size wr w2 := hbW.trans (hw2.mono hbW.size)
        go_wp2
        go_roundw
        case rel => exact ⟨k + 1, by omega, by rw [HM.out], by go_num, hbel.trans (hb2.mono hbel.size)⟩
        case measure => simp [intOf]; omega
    · go_wp2
      go_ret
      obtain rfl : k = n := by omega
      exact ⟨rfl, hbel⟩

theorem eqGuard_block (op : BinOp) (a b : Operand) (xs ys : Array Value) (w : World) : (eqGuard op 45 a b (.agg xs) (.agg ys)).run Try.prog w = .ok () w := by
  exact run_eqGuard_agg w op 45 a b xs ys (by kernel_rfl)

theorem neq_block (px py rx ry : Int) (w : World) : (binOp .neq 45 (.agg #[.int .i64 px, .int .i64 py]) (.agg #[.int .i64 rx, .int .i64 ry])).run Try.prog w = .ok (.bool (!(px == rx && py == ry))) w := by
  have u3 := Try.underlying3
  have a3 := Try.isAgg3
  have z3 := Try.sizeOf3
  have hS : Try.prog.underlying 45 = some (.struct (Try.prog.fieldsOf 45)) := by kernel_rfl
  have hp : Try.prog.stoodInHeld 45 = false := by kernel_rfl
  rw [run_neq_struct, show (10000 : Nat) = 9999 + 1 from rfl, run_equalIn_agg w 9999 45 _ _ hS hp]
  simp only [Program.fieldsOf, Try.underlying45]
  go_simp
  by_cases h1 : px = rx <;> by_cases h2 : py = ry <;> simp [h1, h2]

theorem take_eq_succ {α : Type} (l m : List α) (d : α) (k : Nat) (h : l.take k = m.take k) (hl : k < l.length) (hm : k < m.length) (hd : l.getD k d = m.getD k d) : l.take (k + 1) = m.take (k + 1) := by
  rw [List.getD_eq_getElem?_getD, List.getD_eq_getElem?_getD, List.getElem?_eq_getElem hl, List.getElem?_eq_getElem hm] at hd
  rw [List.take_add_one, List.take_add_one, h, List.getElem?_eq_getElem hl, List.getElem?_eq_getElem hm]
  simp only [Option.getD_some] at hd
  rw [hd]

set_option maxHeartbeats 800000 in
theorem equal_any (v u : Value) (l m : List (Int × Int)) (w : World) (h : IsBlocks w v l) (hu : IsBlocks w u m) :
    Calls Try.prog 22 #[v, u] w fun e w' => e = .returned (.bool (decide (l = m))) ∧ Below w.heap.size w w' := by
  obtain ⟨a, cap, rfl, h1, hl, hc'⟩ := h
  obtain ⟨a', cap', rfl, h1', hl', hm'⟩ := hu
  by_cases hne : l.length = m.length
  · obtain ⟨n, hn⟩ : ∃ n, Hid (n = l.length) := ⟨_, rfl⟩
    have hn2 : Hid (n = m.length) := hn.out.trans hne
    rw [← hn.out] at hl hc' ⊢
    rw [← hn2.out] at hl' hm' ⊢
    clear hne
    go_enter Try.func22, Try.ntmps22
    go_wp2_with fail
    go_loopw [13] (fun i wr => ∃ k : Nat, k ≤ n ∧ i = .int .i64 k ∧ Hid (l.take k = m.take k) ∧ Below w.heap.size w wr) (fun i _ => n - (intOf i).toNat)
    case atStart => exact ⟨0, Nat.zero_le _, rfl, by simp [Hid], Below.refl _ _⟩
    case round =>
      obtain ⟨k, hk, rfl, hok, hbel⟩ := hrel
      by_cases hlt : k < n
      · obtain ⟨b, off, rfl, hc⟩ := hc' (by omega)
        obtain ⟨g, goff, rfl, hm⟩ := hm' (by omega)
        have hck := hc k hlt
        have hmk := hm k hlt
        obtain ⟨⟨px, py⟩, hp⟩ : ∃ p, p = l.getD k (0, 0) := ⟨_, rfl⟩
        obtain ⟨⟨rx, ry⟩, hr⟩ : ∃ p, p = m.getD k (0, 0) := ⟨_, rfl⟩
        rw [← hp] at hck
        rw [← hr] at hmk
        have HP : Hid ((px, py) = l.getD k (0, 0)) := hp
        have HR : Hid ((rx, ry) = m.getD k (0, 0)) := hr
        clear hp hr
        simp only at hck hmk
        have hk0 : wr.cell? ⟨b, off + k * 2, none⟩ = some (.int .i64 px) := (hbel.cell (cell_lt hck.1)).trans hck.1
        have hk1 : wr.cell? ⟨b, off + k * 2 + 1, none⟩ = some (.int .i64 py) := (hbel.cell (cell_lt hck.2)).trans hck.2
        have hr0 : wr.cell? ⟨g, goff + k * 2, none⟩ = some (.int .i64 rx) := (hbel.cell (cell_lt hmk.1)).trans hmk.1
        have hr1 : wr.cell? ⟨g, goff + k * 2 + 1, none⟩ = some (.int .i64 ry) := (hbel.cell (cell_lt hmk.2)).trans hmk.2
        clear hck hmk
        have hq := neq_block px py rx ry
        have hg := eqGuard_block
        have HT := take_eq_succ l m (0, 0) k hok.out (by rw [← hn.out]; exact hlt) (by rw [← hn2.out]; exact hlt)
        rw [← HP.out, ← HR.out] at HT
        have HH : Hid _ := HT
        clear HT
        by_cases hpr : px = rx ∧ py = ry
        · obtain ⟨rfl, rfl⟩ := hpr
          go_wp2_with fail
          refine wp_region_calm (by kernel_rfl) (by kernel_rfl) (fun W hW _ => ?_)
          have hbW : Below wr.heap.size wr W := by rw [hW]; exact Below.refl _ _
          have hc0 : ∀ u : Wd W, u.w.cell? ⟨b, off + k * 2, none⟩ = some (.int .i64 px) := fun u => u.cell ((hbW.cell (cell_lt hk0)).trans hk0)
          have hc1 : ∀ u : Wd W, u.w.cell? ⟨b, off + k * 2 + 1, none⟩ = some (.int .i64 py) := fun u => u.cell ((hbW.cell (cell_lt hk1)).trans hk1)
          have hc2 : ∀ u : Wd W, u.w.cell? ⟨g, goff + k * 2, none⟩ = some (.int .i64 px) := fun u => u.cell ((hbW.cell (cell_lt hr0)).trans hr0)
          have hc3 : ∀ u : Wd W, u.w.cell? ⟨g, goff + k * 2 + 1, none⟩ = some (.int .i64 py) := fun u => u.cell ((hbW.cell (cell_lt hr1)).trans hr1)
          clear hW
          repeat (go_big_quiet_step (fail))
          refine wpQuiet_nil ?_
          rintro w2 ⟨⟨_, hw2⟩, rfl⟩
          have hb2 : Below wr.heap.size wr w2 := hbW.trans (hw2.mono hbW.size)
          go_wp2
          go_roundw
          case rel => exact ⟨k + 1, by omega, by go_num, (by first | exact HH.out rfl | exact HH.out trivial), hbel.trans (hb2.mono hbel.size)⟩
          case measure => simp [intOf]; omega
        have hpr' : (px == rx && py == ry) = false := by simpa using hpr
        rw [hpr'] at hq
        go_wp2_with fail
        refine wp_region_calm (by kernel_rfl) (by kernel_rfl) (fun W hW _ => ?_)
        have hbW : Below wr.heap.size wr W := by rw [hW]; exact Below.refl _ _
        have hc0 : ∀ u : Wd W, u.w.cell? ⟨b, off + k * 2, none⟩ = some (.int .i64 px) := fun u => u.cell ((hbW.cell (cell_lt hk0)).trans hk0)
        have hc1 : ∀ u : Wd W, u.w.cell? ⟨b, off + k * 2 + 1, none⟩ = some (.int .i64 py) := fun u => u.cell ((hbW.cell (cell_lt hk1)).trans hk1)
        have hc2 : ∀ u : Wd W, u.w.cell? ⟨g, goff + k * 2, none⟩ = some (.int .i64 rx) := fun u => u.cell ((hbW.cell (cell_lt hr0)).trans hr0)
        have hc3 : ∀ u : Wd W, u.w.cell? ⟨g, goff + k * 2 + 1, none⟩ = some (.int .i64 ry) := fun u => u.cell ((hbW.cell (cell_lt hr1)).trans hr1)
        clear hW
        repeat (go_big_quiet_step (fail))
        refine wpQuiet_nil ?_
        rintro w2 ⟨⟨_, hw2⟩, rfl⟩
        have hb2 : Below wr.heap.size wr w2 := hbW.trans (hw2.mono hbW.size)
        go_wp2
        go_ret
        refine ⟨ret_bool ?_, hbel.trans (hb2.mono hbel.size)⟩
        symm
        rw [decide_eq_false_iff_not]
        intro h
        subst h
        rw [← HR.out] at HP
        have := HP.out
        simp only [Prod.mk.injEq] at this
        exact hpr this
      · go_wp2
        go_ret
        refine ⟨ret_bool ?_, hbel⟩
        symm
        rw [decide_eq_true_iff]
        have := hok.out
        rwa [List.take_of_length_le (by rw [← hn.out]; omega), List.take_of_length_le (by rw [← hn2.out]; omega)] at this
  · have hd : ¬ ((l.length : Int) = (m.length : Int)) := by omega
    go_enter Try.func22, Try.ntmps22
    go_wp2
    go_ret
    refine ⟨ret_bool ?_, Below.refl _ _⟩
    symm
    rw [decide_eq_false_iff_not]
    intro h
    exact hne (by rw [h])

theorem equal_is {f : Bool} (v u : Value) (l m : List (Int × Int)) (w : World) (h : IsBlocks w v l) (hu : IsBlocks w u m) (hf : decide (l = m) = f) :
    Calls Try.prog 22 #[v, u] w fun e w' => e = .returned (.bool f) ∧ Below w.heap.size w w' := hf ▸ equal_any v u l m w h hu

end Go.Proofs.Yticmloddkngfnah

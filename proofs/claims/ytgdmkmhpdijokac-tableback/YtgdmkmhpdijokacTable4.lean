/- The contract of table.Link. -/
import Derived.Test.YtgdmkmhpdijokacTable3
import Derived.Lib.SliceRun
namespace Go.Proofs.Ytgdmkmhpdijokac
open Go.RowKit
set_option linter.unusedSimpArgs false

/-- zs where m numbers from place o on are 0. -/
def zeroK (zs : List Int) (o m : Nat) : List Int := zs.take o ++ List.replicate m 0 ++ zs.drop (o + m)

theorem length_zeroK {zs : List Int} {o m : Nat} (h : o + m ≤ zs.length) : (zeroK zs o m).length = zs.length := by
  simp [zeroK]; omega
theorem zeroK_getD {zs : List Int} {o m : Nat} (h : o + m ≤ zs.length) (i : Nat) : (zeroK zs o m).getD i 0 = if o ≤ i ∧ i < o + m then 0 else zs.getD i 0 := by
  unfold zeroK
  simp only [List.getD_eq_getElem?_getD]
  by_cases h1 : i < o
  · rw [if_neg (by omega), List.append_assoc, List.getElem?_append_left (by simp; omega), List.getElem?_take_of_lt h1]
  · by_cases h2 : i < o + m
    · rw [if_pos (by omega), List.getElem?_append_left (by simp; omega), List.getElem?_append_right (by simp; omega), List.getElem?_replicate]
      split <;> rfl
    · rw [if_neg (by omega), List.getElem?_append_right (by simp; omega), List.getElem?_drop]
      simp only [List.length_append, List.length_take, List.length_replicate]
      rw [show o + m + (i - (min o zs.length + m)) = i by omega]
theorem zeroK_bytes {zs : List Int} (hz : Bytes zs) {o m : Nat} (h : o + m ≤ zs.length) : Bytes (zeroK zs o m) := by
  intro i
  rw [zeroK_getD h]
  split
  · omega
  · exact hz i
theorem zeroK_nil (zs : List Int) (o : Nat) : zeroK zs o 0 = zs := by simp [zeroK]
theorem vals_zeroK (zs : List Int) (o m : Nat) : vals (zeroK zs o m) = spl (vals zs) o (List.replicate m (.int .u8 0)) := by
  simp [vals, zeroK, spl]

/-- What Link is told, and how many bytes of the leaf's frame it has made 0. -/
def lkE (zs : List Int) (f p l : Int) : Int := if l = f then 7 else if 0 ≤ p ∧ p < 64 ∧ 0 ≤ l ∧ l < 64 ∧ 64 * l + 32 ≤ zs.length then numE zs f (p / 8) else 2
def lkM (zs : List Int) (l : Int) : Nat := if 64 * l.toNat + 64 ≤ zs.length then 64 else 0
def lkL (zs : List Int) (f p l : Int) : List Int := if lkE zs f p l = 0 then zeroK (putK zs (64 * f + 4 * (p / 8)).toNat (256 * l + 1) 4) (64 * l.toNat) (lkM zs l) else []

theorem lk_ok {zs : List Int} {f p l : Int} (h : lkE zs f p l = 0) : l ≠ f ∧ 0 ≤ p ∧ p < 64 ∧ 0 ≤ l ∧ l < 64 ∧ 64 * l + 32 ≤ zs.length ∧ numE zs f (p / 8) = 0 := by
  unfold lkE at h
  by_cases h1 : l = f
  · rw [if_pos h1] at h; cases h
  · rw [if_neg h1] at h
    by_cases h2 : 0 ≤ p ∧ p < 64 ∧ 0 ≤ l ∧ l < 64 ∧ 64 * l + 32 ≤ zs.length
    · rw [if_pos h2] at h; obtain ⟨a, b, c, d, e⟩ := h2; exact ⟨h1, a, b, c, d, e, h⟩
    · rw [if_neg h2] at h; cases h

theorem empty_whole (g n L : Nat) (w W2 : World) (hL : L < 64) (_hn : n ≤ 140737488351232) (hwh : 64 * L + 64 ≤ n)
    (hcl : ∀ ty, (Builtin.clear_ #[22] ty #[.slice (some ⟨g, 64 * L, none⟩) 64 (n - 64 * L)]).run Try.prog w = .ok (.tuple #[]) W2) :
    Calls Try.prog 25 #[.slice (some ⟨g, 0, none⟩) n n, .int .i64 L] w fun e w' => (∃ v, e = .returned v) ∧ w' = W2 := by
  have hfr := fun w1 => frame_ok (L : Int) w1 (by omega)
  have h64 : (64 * (L : Int)).toNat = 64 * L := by omega
  have h128 : (64 * (L : Int) + 64).toNat = 64 * L + 64 := by omega
  go_enter Try.func25, Try.ntmps25
  go_wp2_with (go_at_call 32; refine (hfr _).mono ?_; rintro e w' ⟨rfl, rfl⟩)
  go_end0
  exact ⟨⟨_, rfl⟩, rfl⟩

theorem empty_part (g n L : Nat) (w : World) (hL : L < 64) (_hn : n ≤ 140737488351232) (hwh : ¬ 64 * L + 64 ≤ n) :
    Calls Try.prog 25 #[.slice (some ⟨g, 0, none⟩) n n, .int .i64 L] w fun e w' => (∃ v, e = .returned v) ∧ w' = w := by
  have hfr := fun w1 => frame_ok (L : Int) w1 (by omega)
  go_enter Try.func25, Try.ntmps25
  go_wp2_with (go_at_call 32; refine (hfr _).mono ?_; rintro e w' ⟨rfl, rfl⟩)
  go_end0
  exact ⟨⟨_, rfl⟩, rfl⟩

set_option maxHeartbeats 1600000 in
theorem tableLink_ok (v : Value) (zs : List Int) (f p : Int) (L : Nat) (w : World) (h : IsBytes w v zs) (he : lkE zs f p L = 0) :
    Calls Try.prog 13 #[v, .int .i64 f, .int .i64 p, .int .i64 L] w fun e w' => ∃ g, e = .returned (.tuple #[.slice (some ⟨g, 0, none⟩) zs.length zs.length, .int .i64 0]) ∧ w.heap.size ≤ g ∧
      Below w.heap.size w w' ∧ OwnRow w' g 5 (vals (lkL zs f p L)) := by
  obtain ⟨h1, h2, h3, h4, h5, h6, h7⟩ := lk_ok he
  obtain ⟨_, _, -, hlen⟩ := h.form
  have hq : p.tdiv 8 = p / 8 := Int.tdiv_eq_ediv_of_nonneg h2
  have hq0 : 0 ≤ p / 8 ∧ p / 8 < 8 := by omega
  have hpk : pkE 1 L = 0 := pkE_iff.2 (by unfold okE; omega)
  have hwe : wrE zs f (p / 8) 1 L = 0 := by unfold wrE; rw [if_pos hpk, h7]
  have Hwr : Hid (∀ w1, IsBytes w1 v zs → Calls Try.prog 21 #[v, .int .i64 f, .int .i64 (p / 8), .agg #[.int .i64 1, .int .i64 L]] w1 fun e w' => ∃ g, e = .returned (.tuple #[.slice (some ⟨g, 0, none⟩) zs.length zs.length, .int .i64 0]) ∧ w1.heap.size ≤ g ∧
      Below w1.heap.size w1 w' ∧ OwnRow w' g 5 (vals (putK zs (64 * f + 4 * (p / 8)).toNat (256 * L + 1) 4))) := fun w1 hi => tableWrite_ok v zs f (p / 8) 1 L w1 hi hq0.1 hq0.2 hwe
  have Hpg : Hid (∀ w1, Calls Try.prog 16 #[.int .i64 p] w1 fun e w' => e = .returned (.bool true) ∧ w1 = w') := by
    intro w1; have := isPage_any p w1; rw [show decide (0 ≤ p ∧ p < 64) = true by simp; omega] at this; exact this
  have Hht : Hid (∀ w1, IsBytes w1 v zs → Calls Try.prog 24 #[v, .int .i64 L] w1 fun e w' => e = .returned (.bool true) ∧ w1 = w') := by
    intro w1 hi; have := hasTable_any v zs L w1 hi; rw [show decide (0 ≤ (L : Int) ∧ (L : Int) < 64 ∧ 64 * (L : Int) + 32 ≤ zs.length) = true by simp; omega] at this; exact this
  have Hll : Hid (lkL zs f p L = zeroK (putK zs (64 * f + 4 * (p / 8)).toNat (256 * L + 1) 4) (64 * L) (if 64 * L + 64 ≤ zs.length then 64 else 0)) := by
    show _ = _
    unfold lkL lkM; rw [if_pos he]; rfl
  have Hlp : Hid ((putK zs (64 * f + 4 * (p / 8)).toNat (256 * L + 1) 4).length = zs.length) := length_putK _ _ _ _
  generalize putK zs (64 * f + 4 * (p / 8)).toNat (256 * L + 1) 4 = R at *
  generalize p / 8 = q at *
  clear he h7 hpk hwe
  have hne : ((L : Int) == f) = false := by rw [beq_eq_false_iff_ne]; exact h1
  clear h1
  have hL : L < 64 := by omega
  have h6' : 64 * L + 32 ≤ zs.length := by omega
  clear h6 h5 h4
  go_enter Try.func13, Try.ntmps13
  go_wp2_with (first | (go_at_call 16; refine (Hpg.out _).mono ?_; rintro e w' ⟨rfl, rfl⟩) | (go_at_call 24; refine (Hht.out _ h).mono ?_; rintro e w' ⟨rfl, rfl⟩))
  refine (Hwr.out _ h).mono ?_
  rintro e w1 ⟨g, rfl, hg, hb1, hrow⟩
  clear Hwr Hpg Hht
  have hvl : (vals R).length = zs.length := by rw [length_vals]; exact Hlp.out
  have HV : Hid ((vals R).length = zs.length) := hvl
  have Hrow : Hid (OwnRow w1 g 5 (vals R)) := hrow
  clear hvl hrow
  by_cases hwh : 64 * L + 64 ≤ zs.length
  · have hcl : ∀ ty, (Builtin.clear_ #[22] ty #[.slice (some ⟨g, 64 * L, none⟩) 64 (zs.length - 64 * L)]).run Try.prog w1 = .ok (.tuple #[]) (w1.setCells g (64 * L) (List.replicate 64 (.int .u8 0))) := fun ty =>
      Lib.run_clear_slice w1 _ 5 ty _ Try.underlying22 Try.zeroValue5 rfl rfl g (64 * L) 64 _ (by omega)
        (fun j hj => by rw [Hrow.out.cell, List.getElem?_eq_getElem (by rw [HV.out]; omega)]; rfl) (fun j _ => Hrow.out.free _)
    obtain ⟨W2, hW2⟩ : ∃ W2, Hid (W2 = w1.setCells g (64 * L) (List.replicate 64 (.int .u8 0))) := ⟨_, rfl⟩
    rw [← hW2.out] at hcl
    have fin : Hid (Below w.heap.size w W2 ∧ OwnRow W2 g 5 (vals (lkL zs f p L))) := by
      show _ ∧ _
      rw [hW2.out, Hll.out, if_pos hwh, vals_zeroK]
      refine ⟨below_setCells hg _ _ w _ hb1, OwnRow.setCells _ _ _ _ Hrow.out ?_⟩
      rw [List.length_replicate, HV.out]; exact hwh
    clear HV Hrow hW2 Hll Hlp
    go_wp2_with fail
    refine (empty_whole g zs.length L _ W2 hL hlen hwh hcl).mono ?_
    rintro e w2 ⟨⟨_, rfl⟩, rfl⟩
    go_wp2
    go_ret2
    exact ⟨_, rfl, hg, fin.out⟩
  · have fin : Hid (Below w.heap.size w w1 ∧ OwnRow w1 g 5 (vals (lkL zs f p L))) := by
      show _ ∧ _
      rw [Hll.out, if_neg hwh, zeroK_nil]
      exact ⟨hb1, Hrow.out⟩
    clear HV Hrow Hll Hlp
    go_wp2_with fail
    refine (empty_part g zs.length L _ hL hlen hwh).mono ?_
    rintro e w2 ⟨⟨_, rfl⟩, rfl⟩
    go_wp2
    go_ret2
    exact ⟨_, rfl, hg, fin.out⟩

set_option maxHeartbeats 1600000 in
theorem tableLink_no (v : Value) (zs : List Int) (f p l : Int) (w : World) (h : IsBytes w v zs) (he : lkE zs f p l ≠ 0) :
    Calls Try.prog 13 #[v, .int .i64 f, .int .i64 p, .int .i64 l] w fun e w' => e = .returned (.tuple #[.slice none 0 0, .int .i64 (lkE zs f p l)]) ∧ Below w.heap.size w w' := by
  by_cases h1 : l = f
  · have e1 : lkE zs f p l = 7 := by unfold lkE; rw [if_pos h1]
    rw [e1]
    subst h1
    clear he e1
    go_enter Try.func13, Try.ntmps13
    go_wp2
    go_ret2
    exact ⟨rfl, Below.refl _ _⟩
  · have hne : (l == f) = false := by rw [beq_eq_false_iff_ne]; exact h1
    have Hpg : Hid (∀ w1, Calls Try.prog 16 #[.int .i64 p] w1 fun e w' => e = .returned (.bool (decide (0 ≤ p ∧ p < 64))) ∧ w1 = w') := fun w1 => isPage_any p w1
    have Hht : Hid (∀ w1, IsBytes w1 v zs → Calls Try.prog 24 #[v, .int .i64 l] w1 fun e w' => e = .returned (.bool (decide (0 ≤ l ∧ l < 64 ∧ 64 * l + 32 ≤ zs.length))) ∧ w1 = w') := fun w1 hi => hasTable_any v zs l w1 hi
    by_cases hp : 0 ≤ p ∧ p < 64
    · rw [show decide (0 ≤ p ∧ p < 64) = true by simpa using hp] at Hpg
      by_cases hl : 0 ≤ l ∧ l < 64 ∧ 64 * l + 32 ≤ zs.length
      · rw [show decide (0 ≤ l ∧ l < 64 ∧ 64 * l + 32 ≤ (zs.length : Int)) = true by simpa using hl] at Hht
        have e1 : lkE zs f p l = numE zs f (p / 8) := by unfold lkE; rw [if_neg h1, if_pos ⟨hp.1, hp.2, hl⟩]
        rw [e1] at he ⊢
        have hq : p.tdiv 8 = p / 8 := Int.tdiv_eq_ediv_of_nonneg hp.1
        have hq0 : 0 ≤ p / 8 ∧ p / 8 < 8 := by omega
        have hpk : pkE 1 l = 0 := pkE_iff.2 (by unfold okE; omega)
        have hwe : wrE zs f (p / 8) 1 l = numE zs f (p / 8) := by unfold wrE; rw [if_pos hpk]
        have Hwr : Hid (∀ w1, IsBytes w1 v zs → Calls Try.prog 21 #[v, .int .i64 f, .int .i64 (p / 8), .agg #[.int .i64 1, .int .i64 l]] w1 fun e w' => e = .returned (.tuple #[.slice none 0 0, .int .i64 (numE zs f (p / 8))]) ∧ Below w1.heap.size w1 w') := by
          intro w1 hi
          have := tableWrite_no v zs f (p / 8) 1 l w1 hi hq0.1 hq0.2 (by rw [hwe]; exact he)
          rw [hwe] at this; exact this
        have he' : (numE zs f (p / 8) != 0) = true := by rw [bne_iff_ne]; exact he
        clear he e1 hpk hwe h1 hl
        generalize numE zs f (p / 8) = E at *
        generalize p / 8 = q at *
        go_enter Try.func13, Try.ntmps13
        go_wp2_with (first | (go_at_call 16; refine (Hpg.out _).mono ?_; rintro e w' ⟨rfl, rfl⟩) | (go_at_call 24; refine (Hht.out _ h).mono ?_; rintro e w' ⟨rfl, rfl⟩))
        refine (Hwr.out _ h).mono ?_
        rintro e w1 ⟨rfl, hb1⟩
        go_wp2
        go_ret2
        exact ⟨rfl, hb1⟩
      · rw [show decide (0 ≤ l ∧ l < 64 ∧ 64 * l + 32 ≤ (zs.length : Int)) = false by rw [decide_eq_false_iff_not]; exact hl] at Hht
        have e1 : lkE zs f p l = 2 := by unfold lkE; rw [if_neg h1, if_neg (fun x => hl x.2.2)]
        rw [e1]
        clear he e1 h1 hl hp
        go_enter Try.func13, Try.ntmps13
        go_wp2_with (first | (go_at_call 16; refine (Hpg.out _).mono ?_; rintro e w' ⟨rfl, rfl⟩) | (go_at_call 24; refine (Hht.out _ h).mono ?_; rintro e w' ⟨rfl, rfl⟩))
        go_ret2
        exact ⟨rfl, Below.refl _ _⟩
    · rw [show decide (0 ≤ p ∧ p < 64) = false by rw [decide_eq_false_iff_not]; exact hp] at Hpg
      have e1 : lkE zs f p l = 2 := by unfold lkE; rw [if_neg h1, if_neg (fun x => hp ⟨x.1, x.2.1⟩)]
      rw [e1]
      clear he e1 h1 hp
      go_enter Try.func13, Try.ntmps13
      go_wp2_with (go_at_call 16; refine (Hpg.out _).mono ?_; rintro e w' ⟨rfl, rfl⟩)
      go_ret2
      exact ⟨rfl, Below.refl _ _⟩

theorem lk_room {zs : List Int} {f p l : Int} (he : lkE zs f p l = 0) : 64 * l.toNat + lkM zs l ≤ zs.length := by
  obtain ⟨h1, h2, h3, h4, h5, h6, h7⟩ := lk_ok he
  unfold lkM; split <;> omega

theorem length_lkL {zs : List Int} {f p l : Int} (he : lkE zs f p l = 0) : (lkL zs f p l).length = zs.length := by
  unfold lkL
  rw [if_pos he, length_zeroK (by rw [length_putK]; exact lk_room he), length_putK]

theorem tableLink_any (v : Value) (zs : List Int) (f p l : Int) (w : World) (h : IsBytes w v zs) :
    Calls Try.prog 13 #[v, .int .i64 f, .int .i64 p, .int .i64 l] w fun e w' => ∃ v', e = .returned (.tuple #[v', .int .i64 (lkE zs f p l)]) ∧ IsBytes w' v' (lkL zs f p l) ∧ Below w.heap.size w w' := by
  by_cases he : lkE zs f p l = 0
  · have hok := lk_ok he
    obtain ⟨L, rfl⟩ := Int.eq_ofNat_of_zero_le hok.2.2.2.1
    refine (tableLink_ok v zs f p L w h he).mono ?_
    rintro e w' ⟨g, rfl, hg, hb, hrow⟩
    rw [he]
    obtain ⟨_, _, _, hlen⟩ := h.form
    have hi := isBytes_own hrow (by unfold lkL; rw [if_pos he]; exact zeroK_bytes (putK_bytes zs h.bytes _ _ _) (by rw [length_putK]; exact lk_room he)) (by rw [length_lkL he]; exact hlen)
    rw [length_lkL he] at hi
    exact ⟨_, rfl, hi, hb⟩
  · refine (tableLink_no v zs f p l w h he).mono ?_
    rintro e w' ⟨rfl, hb⟩
    have hl : lkL zs f p l = [] := by unfold lkL; rw [if_neg he]
    rw [hl]
    exact ⟨_, rfl, isBytes_nil _, hb⟩

end Go.Proofs.Ytgdmkmhpdijokac

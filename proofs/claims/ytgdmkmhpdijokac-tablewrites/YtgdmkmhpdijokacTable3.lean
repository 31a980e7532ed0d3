/- The contracts of package table's writing functions (write, Put, hasTable), and of ram.New. -/
import Derived.Test.YtgdmkmhpdijokacTable2
namespace Go.Proofs.Ytgdmkmhpdijokac
open Go.RowKit
set_option linter.unusedSimpArgs false

/-- What the writing of an entry is told, and the new bytes. -/
def wrE (zs : List Int) (f k x y : Int) : Int := if pkE x y = 0 then numE zs f k else pkE x y
def wrL (zs : List Int) (f k x y : Int) : List Int := if wrE zs f k x y = 0 then putK zs (64 * f + 4 * k).toNat (256 * y + x) 4 else []
def ptE (zs : List Int) (f p x y : Int) : Int := if lfE zs f p = 0 then wrE zs (lfN zs f p) (p % 8) x y else lfE zs f p
def ptL (zs : List Int) (f p x y : Int) : List Int := if lfE zs f p = 0 then wrL zs (lfN zs f p) (p % 8) x y else []

theorem wr_ok {zs : List Int} {f k x y : Int} (h : wrE zs f k x y = 0) : pkE x y = 0 ∧ numE zs f k = 0 := by
  unfold wrE at h
  by_cases hp : pkE x y = 0
  · rw [if_pos hp] at h; exact ⟨hp, h⟩
  · rw [if_neg hp] at h; exact absurd h hp

theorem put_own (v : Value) (zs : List Int) (p n x : Int) (w : World) (h : IsBytes w v zs) (hb : hasB zs.length p n = true) :
    Calls Try.prog 31 #[v, .int .i64 p, .int .i64 n, .int .i64 x] w fun e w' => e = .returned (.tuple #[.slice (some ⟨w.heap.size, 0, none⟩) zs.length zs.length, .int .i64 0]) ∧
      Below w.heap.size w w' ∧ OwnRow w' w.heap.size 5 (vals (putK zs p.toNat x n.toNat)) := by
  obtain ⟨a, cap, rfl, h1, h2, h3, h4⟩ := h
  obtain ⟨g1, g2, g3, g4⟩ := hasB_iff.1 hb
  obtain ⟨P, rfl⟩ := Int.eq_ofNat_of_zero_le g3
  obtain ⟨N, rfl⟩ := Int.eq_ofNat_of_zero_le (show 0 ≤ n by omega)
  obtain ⟨b, off, rfl, hc⟩ := h4 (by omega)
  exact put_ok b off zs.length cap zs P N x w (by omega) rfl (by omega) (by omega) (by omega) hc

theorem put_no (v : Value) (zs : List Int) (p n x : Int) (w : World) (h : IsBytes w v zs) (hb : hasB zs.length p n = false) :
    Calls Try.prog 31 #[v, .int .i64 p, .int .i64 n, .int .i64 x] w fun e w' => e = .returned (.tuple #[.slice none 0 0, .int .i64 2]) ∧ w = w' := by
  obtain ⟨a, cap, rfl, h1, h2, h3, h4⟩ := h
  exact put_bad a zs.length cap p n x w (by unfold maxLen; omega) hb

theorem num_has {zs : List Int} {f k : Int} : numE zs f k = 0 ↔ hasB zs.length (spotV f k) 4 = true := by
  unfold numE errV
  split <;> simp_all

set_option maxHeartbeats 800000 in
theorem tableWrite_ok (v : Value) (zs : List Int) (f k x y : Int) (w : World) (h : IsBytes w v zs) (hk : 0 ≤ k) (hk8 : k < 8) (he : wrE zs f k x y = 0) :
    Calls Try.prog 21 #[v, .int .i64 f, .int .i64 k, .agg #[.int .i64 x, .int .i64 y]] w fun e w' => ∃ g, e = .returned (.tuple #[.slice (some ⟨g, 0, none⟩) zs.length zs.length, .int .i64 0]) ∧ w.heap.size ≤ g ∧
      Below w.heap.size w w' ∧ OwnRow w' g 5 (vals (putK zs (64 * f + 4 * k).toNat (256 * y + x) 4)) := by
  obtain ⟨hp, hn⟩ := wr_ok he
  have hv : pkV x y = 256 * y + x := pkV_ok (pkE_iff.1 hp)
  have hf := (numE_iff hk).1 hn
  have hsp : spotV f k = 64 * f + 4 * k := by unfold spotV; rw [if_pos ⟨hf.1, hf.2.1⟩]
  have hh := num_has.1 hn
  have Hpk : Hid (∀ w1, Calls Try.prog 30 #[.agg #[.int .i64 x, .int .i64 y]] w1 fun e w' => e = .returned (.tuple #[.int .i64 (256 * y + x), .int .i64 0]) ∧ Below w1.heap.size w1 w') := by
    intro w1; have := pack_any x y w1; rw [hp, hv] at this; exact this
  have Hsp : Hid (∀ w1, Calls Try.prog 28 #[.int .i64 f, .int .i64 k] w1 fun e w' => e = .returned (.int .i64 (spotV f k)) ∧ w1 = w') := fun w1 => spot_any f k w1 hk hk8
  rw [← hsp]
  clear he hp hn hv hf hsp
  generalize 256 * y + x = X at *
  generalize spotV f k = S at *
  go_enter Try.func21, Try.ntmps21
  go_wp2_with fail
  refine (Hpk.out _).mono ?_
  rintro e w1 ⟨rfl, hb1⟩
  have hbw : Below w.heap.size w w1 := ((Below.refl _ _).alloc (Nat.le_refl _) _).trans (hb1.mono (by simp))
  have h1 := h.below hbw
  clear hb1 Hpk
  go_wp2_with fail
  refine (Hsp.out _).mono ?_
  rintro e w' ⟨rfl, rfl⟩
  go_wp2_with fail
  refine (put_own v zs S 4 X _ h1 hh).mono ?_
  rintro e w2 ⟨rfl, hb2, hrow⟩
  go_wp2
  go_ret2
  exact ⟨_, rfl, hbw.size, hbw.trans (hb2.mono hbw.size), hrow⟩

set_option maxHeartbeats 800000 in
theorem tableWrite_no (v : Value) (zs : List Int) (f k x y : Int) (w : World) (h : IsBytes w v zs) (hk : 0 ≤ k) (hk8 : k < 8) (he : wrE zs f k x y ≠ 0) :
    Calls Try.prog 21 #[v, .int .i64 f, .int .i64 k, .agg #[.int .i64 x, .int .i64 y]] w fun e w' => e = .returned (.tuple #[.slice none 0 0, .int .i64 (wrE zs f k x y)]) ∧ Below w.heap.size w w' := by
  have Hpk : Hid (∀ w1, Calls Try.prog 30 #[.agg #[.int .i64 x, .int .i64 y]] w1 fun e w' => e = .returned (.tuple #[.int .i64 (pkV x y), .int .i64 (pkE x y)]) ∧ Below w1.heap.size w1 w') := fun w1 => pack_any x y w1
  have Hsp : Hid (∀ w1, Calls Try.prog 28 #[.int .i64 f, .int .i64 k] w1 fun e w' => e = .returned (.int .i64 (spotV f k)) ∧ w1 = w') := fun w1 => spot_any f k w1 hk hk8
  by_cases hp : pkE x y = 0
  · have hwe : wrE zs f k x y = numE zs f k := by unfold wrE; rw [if_pos hp]
    have hn : numE zs f k = 2 := by
      rcases numE_cases zs f k with hc | hc
      · rw [hwe] at he; exact absurd hc he
      · exact hc
    have hh : hasB zs.length (spotV f k) 4 = false := by
      have : ¬ (hasB zs.length (spotV f k) 4 = true) := fun hx => by rw [num_has.2 hx] at hn; cases hn
      simpa using this
    rw [hwe, hn]
    rw [hp] at Hpk
    clear he hp hn hwe
    generalize pkV x y = X at *
    generalize spotV f k = S at *
    go_enter Try.func21, Try.ntmps21
    go_wp2_with fail
    refine (Hpk.out _).mono ?_
    rintro e w1 ⟨rfl, hb1⟩
    have hbw : Below w.heap.size w w1 := ((Below.refl _ _).alloc (Nat.le_refl _) _).trans (hb1.mono (by simp))
    have h1 := h.below hbw
    clear hb1 Hpk
    go_wp2_with fail
    refine (Hsp.out _).mono ?_
    rintro e w' ⟨rfl, rfl⟩
    go_wp2_with fail
    refine (put_no v zs S 4 X _ h1 hh).mono ?_
    rintro e w2 ⟨rfl, rfl⟩
    go_wp2
    go_ret2
    exact ⟨rfl, hbw⟩
  · have hwe : wrE zs f k x y = pkE x y := by unfold wrE; rw [if_neg hp]
    rw [hwe]
    have hp' : (pkE x y != 0) = true := by rw [bne_iff_ne]; exact hp
    clear he hp hwe Hsp
    generalize pkV x y = X at *
    generalize pkE x y = E at *
    go_enter Try.func21, Try.ntmps21
    go_wp2_with fail
    refine (Hpk.out _).mono ?_
    rintro e w1 ⟨rfl, hb1⟩
    have hbw : Below w.heap.size w w1 := ((Below.refl _ _).alloc (Nat.le_refl _) _).trans (hb1.mono (by simp))
    clear hb1 Hpk
    go_wp2
    go_ret2
    exact ⟨rfl, hbw⟩

theorem tableWrite_any (v : Value) (zs : List Int) (f k x y : Int) (w : World) (h : IsBytes w v zs) (hk : 0 ≤ k) (hk8 : k < 8) :
    Calls Try.prog 21 #[v, .int .i64 f, .int .i64 k, .agg #[.int .i64 x, .int .i64 y]] w fun e w' => ∃ v', e = .returned (.tuple #[v', .int .i64 (wrE zs f k x y)]) ∧ IsBytes w' v' (wrL zs f k x y) ∧ Below w.heap.size w w' := by
  by_cases he : wrE zs f k x y = 0
  · refine (tableWrite_ok v zs f k x y w h hk hk8 he).mono ?_
    rintro e w' ⟨g, rfl, hg, hb, hrow⟩
    have hl : wrL zs f k x y = putK zs (64 * f + 4 * k).toNat (256 * y + x) 4 := by unfold wrL; rw [if_pos he]
    rw [hl, he]
    obtain ⟨_, _, _, hlen⟩ := h.form
    have hi := isBytes_own hrow (putK_bytes zs h.bytes _ _ _) (by rw [length_putK]; exact hlen)
    rw [length_putK] at hi
    exact ⟨_, rfl, hi, hb⟩
  · refine (tableWrite_no v zs f k x y w h hk hk8 he).mono ?_
    rintro e w' ⟨rfl, hb⟩
    have hl : wrL zs f k x y = [] := by unfold wrL; rw [if_neg he]
    rw [hl]
    exact ⟨_, rfl, isBytes_nil _, hb⟩

set_option maxHeartbeats 800000 in
theorem tablePut_any (v : Value) (zs : List Int) (f p x y : Int) (w : World) (h : IsBytes w v zs) :
    Calls Try.prog 11 #[v, .int .i64 f, .int .i64 p, .agg #[.int .i64 x, .int .i64 y]] w fun e w' => ∃ v', e = .returned (.tuple #[v', .int .i64 (ptE zs f p x y)]) ∧ IsBytes w' v' (ptL zs f p x y) ∧ Below w.heap.size w w' := by
  have Hleaf : Hid (∀ w1, IsBytes w1 v zs → Calls Try.prog 7 #[v, .int .i64 f, .int .i64 p] w1 fun e w' => e = .returned (.tuple #[.int .i64 (lfN zs f p), .int .i64 (lfE zs f p)]) ∧ Below w1.heap.size w1 w') := fun w1 h1 => tableLeaf_any v zs f p w1 h1
  by_cases h0 : lfE zs f p = 0
  · have hp := lfE_page h0
    have hm : p.tmod 8 = p % 8 := Int.tmod_eq_emod_of_nonneg hp.1
    have hq : 0 ≤ p % 8 ∧ p % 8 < 8 := by omega
    have e1 : ptE zs f p x y = wrE zs (lfN zs f p) (p % 8) x y := by unfold ptE; rw [if_pos h0]
    have e2 : ptL zs f p x y = wrL zs (lfN zs f p) (p % 8) x y := by unfold ptL; rw [if_pos h0]
    have Hwr : Hid (∀ w1, IsBytes w1 v zs → Calls Try.prog 21 #[v, .int .i64 (lfN zs f p), .int .i64 (p % 8), .agg #[.int .i64 x, .int .i64 y]] w1 fun e w' => ∃ v', e = .returned (.tuple #[v', .int .i64 (ptE zs f p x y)]) ∧ IsBytes w' v' (ptL zs f p x y) ∧ Below w1.heap.size w1 w') := by
      intro w1 h1
      rw [e1, e2]
      exact tableWrite_any v zs (lfN zs f p) (p % 8) x y w1 h1 hq.1 hq.2
    rw [h0] at Hleaf
    clear e1 e2 h0
    generalize lfN zs f p = L at *
    generalize ptE zs f p x y = E at *
    generalize ptL zs f p x y = R at *
    generalize p % 8 = q at *
    go_enter Try.func11, Try.ntmps11
    go_wp2_with fail
    refine (Hleaf.out _ (h.below ((Below.refl _ _).alloc (Nat.le_refl _) _))).mono ?_
    rintro e w1 ⟨rfl, hb1⟩
    have ho := own_one (xs := [_, _]) hb1
    have hbw : Below w.heap.size w w1 := ((Below.refl _ _).alloc (Nat.le_refl _) _).trans (hb1.mono (by simp))
    have h1 := h.below hbw
    clear hb1 Hleaf
    obtain ⟨⟨c0, c1⟩, f0, f1⟩ := ho.pair
    have hlt := ho.lt
    clear ho
    go_wp2_with fail
    refine (Hwr.out _ h1).mono ?_
    rintro e w2 ⟨v', rfl, hi2, hb2⟩
    clear Hwr c0 c1 f0 f1
    go_wp2
    go_ret2
    exact ⟨_, rfl, hi2, hbw.trans (hb2.mono hbw.size)⟩
  · have e1 : ptE zs f p x y = lfE zs f p := by unfold ptE; rw [if_neg h0]
    have e2 : ptL zs f p x y = [] := by unfold ptL; rw [if_neg h0]
    rw [e1, e2]
    have h0' : (lfE zs f p != 0) = true := by rw [bne_iff_ne]; exact h0
    clear e1 e2 h0
    generalize lfN zs f p = L at *
    generalize lfE zs f p = E at *
    go_enter Try.func11, Try.ntmps11
    go_wp2_with fail
    refine (Hleaf.out _ (h.below ((Below.refl _ _).alloc (Nat.le_refl _) _))).mono ?_
    rintro e w1 ⟨rfl, hb1⟩
    have hbw : Below w.heap.size w w1 := ((Below.refl _ _).alloc (Nat.le_refl _) _).trans (hb1.mono (by simp))
    clear hb1 Hleaf
    go_wp2
    go_ret2
    exact ⟨_, rfl, isBytes_nil _, hbw⟩

set_option maxHeartbeats 400000 in
theorem hasTable_any (v : Value) (zs : List Int) (f : Int) (w : World) (h : IsBytes w v zs) :
    Calls Try.prog 24 #[v, .int .i64 f] w fun e w' => e = .returned (.bool (decide (0 ≤ f ∧ f < 64 ∧ 64 * f + 32 ≤ zs.length))) ∧ w = w' := by
  obtain ⟨a, cap, rfl, hl⟩ := h.form
  clear h
  by_cases hf : 0 ≤ f ∧ f < 64
  · obtain ⟨h1, h2⟩ := hf
    have hd : decide (0 ≤ f ∧ f < 64 ∧ 64 * f + 32 ≤ (zs.length : Int)) = decide (64 * f + 32 ≤ (zs.length : Int)) := by simp [h1, h2]
    rw [hd]
    clear hd
    go_enter Try.func24, Try.ntmps24
    go_wp2_with (go_at_call 32; refine (frame_ok _ _ ⟨h1, h2⟩).mono ?_; rintro e w' ⟨rfl, rfl⟩)
    go_ret
    exact ⟨rfl, rfl⟩
  · have hd : decide (0 ≤ f ∧ f < 64 ∧ 64 * f + 32 ≤ (zs.length : Int)) = false := by rw [decide_eq_false_iff_not]; omega
    rw [hd]
    go_enter Try.func24, Try.ntmps24
    go_wp2_with (go_at_call 32; refine (frame_no _ _ hf).mono ?_; rintro e w' ⟨rfl, rfl⟩)
    go_ret
    exact ⟨rfl, rfl⟩

set_option maxHeartbeats 400000 in
theorem new_any' (w : World) : Calls Try.prog 26 #[] w fun e w' => ∃ v', e = .returned v' ∧ IsBytes w' v' (List.replicate 4096 0) ∧ Below w.heap.size w w' := by
  obtain ⟨i0, hi, hz0, hz1, hz2⟩ := info_parts Try.infoU8
  have hby : i0.bytes * 4096 ≤ 281474976710656 := by rw [hz2]; omega
  have hm : 4096 ≤ maxLen := by unfold maxLen; omega
  go_enter Try.func26, Try.ntmps26
  go_wp2_with (at_make; go_must (refine wpList_make_row _ rfl _ _ 22 rfl 5 i0 (.int .u8 0) Try.underlying22 hi hz0 hz1 rfl .i64 .i64 _ _ 4096 rfl rfl rfl rfl hby hm ?_); intro w1 hrow hbel hsz)
  go_ret
  refine ⟨_, rfl, ?_, hbel⟩
  have hr : OwnRow w1 w.heap.size 5 (vals (List.replicate 4096 0)) := by
    unfold vals; rw [List.map_replicate]; exact hrow
  have := isBytes_own hr (by
    intro i
    rw [List.getD_eq_getElem?_getD, List.getElem?_replicate]
    split <;> simp) (by rw [List.length_replicate]; omega)
  rw [List.length_replicate] at this
  exact this

end Go.Proofs.Ytgdmkmhpdijokac

/- Who has the right tag may look, and who has another one is told at the first granule that it is not that of: framewardenkeep.CheckTags returns true at every attribute, every slice of numbers within the form's own reach and all numbers. -/
import Derived.Test.YtkmkjngfoodehadAlive7
namespace Go.Proofs.Ytkmkjngfoodehad
open Go.RowKit
set_option linter.unusedSimpArgs false
set_option linter.unusedVariables false

theorem fu_take (zs : List Int) (t : Int) : fu (zs.take (fu zs t)) t = (zs.take (fu zs t)).length := by
  rcases Nat.lt_or_ge (fu (zs.take (fu zs t)) t) (zs.take (fu zs t)).length with h | h
  · have h1 := fu_at h
    have h2 := h
    rw [List.length_take] at h2
    have h3 : fu (zs.take (fu zs t)) t < fu zs t := by omega
    have h4 := fu_before h3
    rw [List.getD_eq_getElem?_getD, List.getElem?_take_of_lt h3, ← List.getD_eq_getElem?_getD] at h1
    exact absurd h4 h1
  · exact Nat.le_antisymm (fu_le _ _) h

theorem tg_take (T : Bool) (y : Int) (zs : List Int) (t : Int) : tgF T y (zs.take (fu zs t)) t = 0 ∧ tgK T y (zs.take (fu zs t)) t = 0 :=
  tg_no (fun h => by have := h.2.2; rw [fu_take] at this; omega)

theorem isInts_take {w : World} {a : Option Addr} {cap n : Nat} {zs : List Int} (h : IsInts w (.slice a zs.length cap) zs) (hn : n ≤ zs.length) : IsInts w (.slice a n cap) (zs.take n) := by
  have hl : (zs.take n).length = n := by rw [List.length_take]; omega
  obtain ⟨a', cap', e, h2, h3, h4, h5⟩ := h
  injection e with e1 e2 e3
  subst e1 e3
  refine ⟨a, cap, by rw [hl], by omega, by omega, fun z hz => h4 z (List.mem_of_mem_take hz), fun hp => ?_⟩
  obtain ⟨b, off, ha, hc⟩ := h5 (by omega)
  refine ⟨b, off, ha, fun i hi => ?_⟩
  rw [hc i (by omega), List.getD_eq_getElem?_getD, List.getD_eq_getElem?_getD, List.getElem?_take_of_lt (by omega)]

set_option maxHeartbeats 1600000 in
theorem checkTags_ok (r k : Int) (T s : Bool) (y : Int) (v : Value) (zs : List Int) (t : Int) (w : World) (h : IsInts w v zs) (hno : ¬ tgH T y zs t) :
    Calls Try.prog 8 #[.agg #[.int .i64 r, .int .i64 k, .bool T, .bool s], .int .i64 y, v, .int .i64 t] w fun e w' => e = .returned (.bool true) ∧ Below w.heap.size w w' := by
  have HT : Hid (∀ w1, IsInts w1 v zs → Calls Try.prog 17 #[.agg #[.int .i64 r, .int .i64 k, .bool T, .bool s], .int .i64 y, v, .int .i64 t] w1 fun e w' => e = .returned (.tuple #[.int .i64 0, .int .i64 0]) ∧ Below w1.heap.size w1 w') := fun w1 h1 => by
    have := tags_any r k T s y v zs t w1 h1
    rw [(tg_no hno).1, (tg_no hno).2] at this
    exact this
  have HC : Hid (∀ j, j < zs.length → T = false ∨ (T = true ∧ (y != 4) = false) ∨ (T = true ∧ (y != 4) = true ∧ zs.getD j 0 = t)) := fun j hj => by
    cases T
    · exact Or.inl rfl
    · by_cases h4 : y = 4
      · right; left; simp [h4]
      · right; right
        refine ⟨rfl, by simp [h4], fu_before ?_⟩
        rcases Nat.lt_or_ge (fu zs t) zs.length with h1 | h1
        · exact absurd ⟨rfl, h4, h1⟩ hno
        · omega
  clear hno
  have hA : OwnRow (w.alloc (.cells #[.int .i64 r, .int .i64 k, .bool T, .bool s] 36)) w.heap.size 36 [.int .i64 r, .int .i64 k, .bool T, .bool s] := heap_alloc_new w _
  have hbW : Below w.heap.size w (w.alloc (.cells #[.int .i64 r, .int .i64 k, .bool T, .bool s] 36)) := (Below.refl _ _).alloc (Nat.le_refl _) _
  have h0 := h.below hbW rfl
  clear h
  go_enter Try.func8, Try.ntmps8
  go_wp2_with fail
  refine (alive7_any _).mono ?_
  rintro e w1 ⟨rfl, hb1⟩
  have hA1 := hA.below hb1 hA.lt
  have hbw1 := hbW.trans (hb1.mono hbW.size)
  have h1 := h0.below hb1 rfl
  clear hA hbW h0 hb1
  obtain ⟨a0, a1, a2, a3⟩ := hA1.four
  go_wp2_with fail
  refine (HT.out w1 h1).mono ?_
  rintro e w2 ⟨rfl, hb2⟩
  have hA2 := hA1.below hb2 hA1.lt
  have hbw2 := hbw1.trans (hb2.mono hbw1.size)
  have h2 := h1.below hb2 rfl
  clear hA1 hbw1 h1 hb2 a0 a1 a2 a3 HT
  obtain ⟨a, cap, rfl, hzc, hzl, -, hz'⟩ := h2
  obtain ⟨n, hn⟩ : ∃ n, Hid (n = zs.length) := ⟨_, rfl⟩
  rw [← hn.out] at hzc hzl hz' HC ⊢
  go_wp2
  go_loopw [29] (fun i wr => ∃ j : Nat, j ≤ n ∧ i = .int .i64 j ∧ OwnRow wr w.heap.size 36 [.int .i64 r, .int .i64 k, .bool T, .bool s] ∧ Below w2.heap.size w2 wr) (fun i _ => n - (intOf i).toNat)
  case atStart => exact ⟨0, Nat.zero_le _, rfl, hA2, Below.refl _ _⟩
  case round =>
    clear hA2
    obtain ⟨j, hj, rfl, hA, hbel⟩ := hrel
    by_cases hlt : j < n
    · obtain ⟨b, off, rfl, hz⟩ := hz' (by omega)
      have hck := hz j hlt
      have hcs := HC.out j hlt
      obtain ⟨o, ho⟩ : ∃ o, o = zs.getD j 0 := ⟨_, rfl⟩
      rw [← ho] at hck hcs
      have hk0 : wr.cell? ⟨b, off + j, none⟩ = some (.int .i64 o) := (hbel.cell (cell_lt hck)).trans hck
      have hc2 : wr.cell? ⟨w.heap.size, 2, none⟩ = some (.bool T) := by rw [hA.cell]; rfl
      clear hck ho hz
      rcases hcs with rfl | ⟨rfl, hy⟩ | ⟨rfl, hy, ht⟩
      · go_wp2
        go_roundw
        case rel => exact ⟨j + 1, by omega, by go_num, hA, hbel⟩
        case measure => simp [intOf]; omega
      · go_wp2
        go_roundw
        case rel => exact ⟨j + 1, by omega, by go_num, hA, hbel⟩
        case measure => simp [intOf]; omega
      · have hne : (o != t) = false := by simp [ht]
        clear ht
        go_wp2
        go_roundw
        case rel => exact ⟨j + 1, by omega, by go_num, hA, hbel⟩
        case measure => simp [intOf]; omega
    · go_wp2
      go_ret
      exact ⟨rfl, hbw2.trans (hbel.mono hbw2.size)⟩

set_option maxHeartbeats 1600000 in
theorem checkTags_no (r k : Int) (s : Bool) (y : Int) (v : Value) (zs : List Int) (t : Int) (w : World) (h : IsInts w v zs) (hH : tgH true y zs t) :
    Calls Try.prog 8 #[.agg #[.int .i64 r, .int .i64 k, .bool true, .bool s], .int .i64 y, v, .int .i64 t] w fun e w' => e = .returned (.bool true) ∧ Below w.heap.size w w' := by
  have HT2 : Hid (∀ v' w1, IsInts w1 v' (zs.take (fu zs t)) → Calls Try.prog 17 #[.agg #[.int .i64 r, .int .i64 k, .bool true, .bool s], .int .i64 y, v', .int .i64 t] w1 fun e w' => e = .returned (.tuple #[.int .i64 0, .int .i64 0]) ∧ Below w1.heap.size w1 w') := fun v' w1 h1 => by
    have := tags_any r k true s y v' _ t w1 h1
    rw [(tg_take true y zs t).1, (tg_take true y zs t).2] at this
    exact this
  obtain ⟨q, hq⟩ : ∃ q, Hid (q = fu zs t) := ⟨_, rfl⟩
  have HT : Hid (∀ w1, IsInts w1 v zs → Calls Try.prog 17 #[.agg #[.int .i64 r, .int .i64 k, .bool true, .bool s], .int .i64 y, v, .int .i64 t] w1 fun e w' => e = .returned (.tuple #[.int .i64 4, .int .i64 q]) ∧ Below w1.heap.size w1 w') := fun w1 h1 => by
    have := tags_any r k true s y v zs t w1 h1
    rw [(tg_yes hH).1, (tg_yes hH).2, ← hq.out] at this
    exact this
  have hat := fu_at hH.2.2
  have hqn := hH.2.2
  rw [← hq.out] at hat hqn HT2
  clear hH hq
  have hA : OwnRow (w.alloc (.cells #[.int .i64 r, .int .i64 k, .bool true, .bool s] 36)) w.heap.size 36 [.int .i64 r, .int .i64 k, .bool true, .bool s] := heap_alloc_new w _
  have hbW : Below w.heap.size w (w.alloc (.cells #[.int .i64 r, .int .i64 k, .bool true, .bool s] 36)) := (Below.refl _ _).alloc (Nat.le_refl _) _
  have h0 := h.below hbW rfl
  clear h
  go_enter Try.func8, Try.ntmps8
  go_wp2_with fail
  refine (alive7_any _).mono ?_
  rintro e w1 ⟨rfl, hb1⟩
  have hA1 := hA.below hb1 hA.lt
  have hbw1 := hbW.trans (hb1.mono hbW.size)
  have h1 := h0.below hb1 rfl
  clear hA hbW h0 hb1
  obtain ⟨a0, a1, a2, a3⟩ := hA1.four
  go_wp2_with fail
  refine (HT.out w1 h1).mono ?_
  rintro e w2 ⟨rfl, hb2⟩
  have hA2 := hA1.below hb2 hA1.lt
  have hbw2 := hbw1.trans (hb2.mono hbw1.size)
  have h2 := h1.below hb2 rfl
  clear hA1 hbw1 h1 hb2 a0 a1 a2 a3 HT
  have H2 : Hid (IsInts w2 v zs) := h2
  obtain ⟨a, cap, rfl, hzc, hzl, -, hz'⟩ := h2
  have H3 : Hid (IsInts w2 (.slice a q cap) (zs.take q)) := isInts_take H2.out (Nat.le_of_lt hqn)
  clear H2
  obtain ⟨b, off, rfl, hz⟩ := hz' (by omega)
  have hck := hz q hqn
  obtain ⟨n, hn⟩ : ∃ n, Hid (n = zs.length) := ⟨_, rfl⟩
  rw [← hn.out] at hzc hzl hqn ⊢
  obtain ⟨o, ho⟩ : ∃ o, o = zs.getD q 0 := ⟨_, rfl⟩
  rw [← ho] at hck hat
  have hne : (o == t) = false := by simp [hat]
  clear hz hz' ho hn hat
  go_wp2_with fail
  refine wp_region_calm (by kernel_rfl) (by kernel_rfl) (fun W hW _ => ?_)
  subst hW
  obtain ⟨a0, a1, a2, a3⟩ := hA2.four
  have ha0 : ∀ u : Wd W, u.w.cell? ⟨w.heap.size, 0, none⟩ = some (.int .i64 r) := fun u => u.cell a0
  have ha1 : ∀ u : Wd W, u.w.cell? ⟨w.heap.size, 1, none⟩ = some (.int .i64 k) := fun u => u.cell a1
  have ha2 : ∀ u : Wd W, u.w.cell? ⟨w.heap.size, 2, none⟩ = some (.bool true) := fun u => u.cell a2
  have ha3 : ∀ u : Wd W, u.w.cell? ⟨w.heap.size, 3, none⟩ = some (.bool s) := fun u => u.cell a3
  clear a0 a1 a2 a3 hA2 hck
  repeat (go_big_quiet_step (first | (go_at_call 17; exact calm_of (HT2.out _ _ (H3.out.below (Wd.ok _) rfl)))))
  refine wpQuiet_nil ?_
  rintro w3 ⟨⟨_, hw3⟩, rfl⟩
  go_wp2
  go_ret
  exact ⟨rfl, hbw2.trans (hw3.mono hbw2.size)⟩

theorem checkTags_any (r k : Int) (T s : Bool) (y : Int) (v : Value) (zs : List Int) (t : Int) (w : World) (_ : (Lit.int .i64 y).wf = true) (h : IsInts w v zs) (_ : (Lit.int .i64 t).wf = true) :
    Calls Try.prog 8 #[.agg #[.int .i64 r, .int .i64 k, .bool T, .bool s], .int .i64 y, v, .int .i64 t] w fun e w' => e = .returned (.bool true) ∧ Below w.heap.size w w' := by
  by_cases hH : tgH T y zs t
  · obtain rfl : T = true := hH.1
    exact checkTags_no r k s y v zs t w h hH
  · exact checkTags_ok r k T s y v zs t w h hH

end Go.Proofs.Ytkmkjngfoodehad

/- More rights never fault more, and less denied neither: framewardenkeep.CheckMore returns true at every attribute, all keys and all numbers. -/
import Derived.Test.YtkmkjngfoodehadAlive7
namespace Go.Proofs.Ytkmkjngfoodehad
open Go.RowKit
set_option linter.unusedSimpArgs false
set_option linter.unusedVariables false

theorem pg_zero {r k d0 d1 d2 d3 y : Int} : pg r k d0 d1 d2 d3 y = 0 ↔ way3 y ∧ hs r y = true ∧ (y = 4 ∨ dn d0 d1 d2 d3 k y = false) := by
  unfold pg
  rw [← iw_iff]
  cases iw y <;> cases hs r y <;> cases dn d0 d1 d2 d3 k y <;> by_cases h : y = 4 <;> simp [h]

/-- What is denied without some. -/
abbrev ls (m d : Int) : Int := bits .andNot .i64 d m

theorem dk_ls (m d0 d1 d2 d3 k : Int) : dk (ls m d0) (ls m d1) (ls m d2) (ls m d3) k = ls m (dk d0 d1 d2 d3 k) := by
  unfold dk
  split
  · rfl
  · split
    · rfl
    · split <;> rfl

theorem dn_ls {m d0 d1 d2 d3 k y : Int} (hy : way3 y) (h : dn d0 d1 d2 d3 k y = false) : dn (ls m d0) (ls m d1) (ls m d2) (ls m d3) k y = false := by
  unfold dn at h ⊢
  split at h
  · cases h
  · rename_i hk
    rw [if_neg hk, dk_ls]
    exact hs_less m hy h

theorem pg_more {m l r k d0 d1 d2 d3 y : Int} (h : pg r k d0 d1 d2 d3 y = 0) : pg (bits .or .i64 r m) k (ls l d0) (ls l d1) (ls l d2) (ls l d3) y = 0 := by
  obtain ⟨h1, h2, h3⟩ := pg_zero.1 h
  exact pg_zero.2 ⟨h1, hs_or m h1 h2, h3.imp id (dn_ls h1)⟩

/-- The keys behind n rounds. -/
def opn (m : Int) (t0 : Bool) (d0 : Int) (t1 : Bool) (d1 : Int) (t2 : Bool) (d2 : Int) (t3 : Bool) (d3 : Int) (n : Nat) : List Value :=
  [.bool t0, .int .i64 (if 0 < n then ls m d0 else d0), .bool t1, .int .i64 (if 1 < n then ls m d1 else d1), .bool t2, .int .i64 (if 2 < n then ls m d2 else d2), .bool t3, .int .i64 (if 3 < n then ls m d3 else d3)]

theorem opn_0 (m : Int) (t0 : Bool) (d0 : Int) (t1 : Bool) (d1 : Int) (t2 : Bool) (d2 : Int) (t3 : Bool) (d3 : Int) : opn m t0 d0 t1 d1 t2 d2 t3 d3 0 = [.bool t0, .int .i64 d0, .bool t1, .int .i64 d1, .bool t2, .int .i64 d2, .bool t3, .int .i64 d3] := by simp [opn]
theorem opn_1 (m : Int) (t0 : Bool) (d0 : Int) (t1 : Bool) (d1 : Int) (t2 : Bool) (d2 : Int) (t3 : Bool) (d3 : Int) : opn m t0 d0 t1 d1 t2 d2 t3 d3 1 = [.bool t0, .int .i64 (ls m d0), .bool t1, .int .i64 d1, .bool t2, .int .i64 d2, .bool t3, .int .i64 d3] := by simp [opn]
theorem opn_2 (m : Int) (t0 : Bool) (d0 : Int) (t1 : Bool) (d1 : Int) (t2 : Bool) (d2 : Int) (t3 : Bool) (d3 : Int) : opn m t0 d0 t1 d1 t2 d2 t3 d3 2 = [.bool t0, .int .i64 (ls m d0), .bool t1, .int .i64 (ls m d1), .bool t2, .int .i64 d2, .bool t3, .int .i64 d3] := by simp [opn]
theorem opn_3 (m : Int) (t0 : Bool) (d0 : Int) (t1 : Bool) (d1 : Int) (t2 : Bool) (d2 : Int) (t3 : Bool) (d3 : Int) : opn m t0 d0 t1 d1 t2 d2 t3 d3 3 = [.bool t0, .int .i64 (ls m d0), .bool t1, .int .i64 (ls m d1), .bool t2, .int .i64 (ls m d2), .bool t3, .int .i64 d3] := by simp [opn]
theorem opn_4 (m : Int) (t0 : Bool) (d0 : Int) (t1 : Bool) (d1 : Int) (t2 : Bool) (d2 : Int) (t3 : Bool) (d3 : Int) : opn m t0 d0 t1 d1 t2 d2 t3 d3 4 = [.bool t0, .int .i64 (ls m d0), .bool t1, .int .i64 (ls m d1), .bool t2, .int .i64 (ls m d2), .bool t3, .int .i64 (ls m d3)] := by simp [opn]

theorem OwnRow.beside {w : World} {g b i : Nat} {e : TypeId} {xs : List Value} (h : OwnRow w g e xs) (hne : g ≠ b) (v : Value) : OwnRow (w.setCell ⟨b, i, none⟩ v) g e xs := by
  unfold OwnRow at *
  simp only [World.setCell, Array.getElem?_modify]
  rw [if_neg (fun h => hne h.symm)]
  exact h

set_option maxHeartbeats 1600000 in
theorem checkMore_walk (r k : Int) (t s : Bool) (t0 : Bool) (d0 : Int) (t1 : Bool) (d1 : Int) (t2 : Bool) (d2 : Int) (t3 : Bool) (d3 : Int) (y m l : Int) (w : World) :
    Calls Try.prog 6 #[.agg #[.int .i64 r, .int .i64 k, .bool t, .bool s], keysV t0 d0 t1 d1 t2 d2 t3 d3, .int .i64 y, .int .i64 m, .int .i64 l] w fun e w' => e = .returned (.bool true) ∧ Below w.heap.size w w' := by
  obtain ⟨R, hR⟩ : ∃ R, Hid (R = bits .or .i64 r m) := ⟨_, rfl⟩
  obtain ⟨P, hP⟩ : ∃ P, Hid (P = pg r k d0 d1 d2 d3 y) := ⟨_, rfl⟩
  obtain ⟨Q, hQ⟩ : ∃ Q, Hid (Q = pg R k (ls l d0) (ls l d1) (ls l d2) (ls l d3) y) := ⟨_, rfl⟩
  have H1 : Hid (∀ w1, Calls Try.prog 21 #[.agg #[.int .i64 r, .int .i64 k, .bool t, .bool s], .agg #[.bool t0, .int .i64 d0, .bool t1, .int .i64 d1, .bool t2, .int .i64 d2, .bool t3, .int .i64 d3], .int .i64 y] w1 fun e w' => e = .returned (.int .i64 P) ∧ Below w1.heap.size w1 w') := fun w1 => by rw [hP.out]; exact page_any r k t s t0 d0 t1 d1 t2 d2 t3 d3 y w1
  have hcase : (P != 0) = true ∨ ((P != 0) = false ∧ (Q == 0) = true) := by
    by_cases h : P = 0
    · right
      have : Q = 0 := by rw [hQ.out, hR.out]; exact pg_more (hP.out ▸ h)
      simp [h, this]
    · left; simp [h]
  obtain ⟨W0, hW0⟩ : ∃ W0, W0 = (w.alloc (.cells #[.int .i64 r, .int .i64 k, .bool t, .bool s] 36)).alloc (.cells #[.bool t0, .int .i64 d0, .bool t1, .int .i64 d1, .bool t2, .int .i64 d2, .bool t3, .int .i64 d3] 39) := ⟨_, rfl⟩
  have hbW : Below w.heap.size w W0 := by rw [hW0]; exact ((Below.refl _ _).alloc (Nat.le_refl _) _).alloc (by simp) _
  have hAB : OwnRow W0 w.heap.size 36 [.int .i64 r, .int .i64 k, .bool t, .bool s] ∧ OwnRow W0 (w.heap.size + 1) 39 [.bool t0, .int .i64 d0, .bool t1, .int .i64 d1, .bool t2, .int .i64 d2, .bool t3, .int .i64 d3] := by
    rw [hW0]
    exact own_two (xs := [.int .i64 r, .int .i64 k, .bool t, .bool s]) (ys := [.bool t0, .int .i64 d0, .bool t1, .int .i64 d1, .bool t2, .int .i64 d2, .bool t3, .int .i64 d3]) (Below.refl _ _)
  obtain ⟨hA, hB⟩ := hAB
  go_enter Try.func6, Try.ntmps6
  go_wp2_with fail
  rw [← hW0]
  refine (alive7_any _).mono ?_
  rintro e w1 ⟨rfl, hb1⟩
  have hA1 := hA.below hb1 hA.lt
  have hB1 := hB.below hb1 hB.lt
  have hbw1 := hbW.trans (hb1.mono hbW.size)
  clear hW0 hA hB hb1 hbW
  obtain ⟨a0, a1, a2, a3⟩ := hA1.four
  obtain ⟨⟨b0, b1, b2, b3⟩, ⟨b4, b5, b6, b7⟩⟩ := hB1.eight
  have hzA := hA1.lt
  have hzB := hB1.lt
  go_wp2_with fail
  rw [← hR.out]
  obtain ⟨W2, hW2⟩ : ∃ W2, W2 = (w1.alloc (.cells #[.int .i64 R, .int .i64 k, .bool t, .bool s] 36)).alloc (.cells #[.bool t0, .int .i64 d0, .bool t1, .int .i64 d1, .bool t2, .int .i64 d2, .bool t3, .int .i64 d3] 39) := ⟨_, rfl⟩
  have hb2 : Below w1.heap.size w1 W2 := by rw [hW2]; exact ((Below.refl _ _).alloc (Nat.le_refl _) _).alloc (by simp) _
  have hCD : OwnRow W2 w1.heap.size 36 [.int .i64 R, .int .i64 k, .bool t, .bool s] ∧ OwnRow W2 (w1.heap.size + 1) 39 [.bool t0, .int .i64 d0, .bool t1, .int .i64 d1, .bool t2, .int .i64 d2, .bool t3, .int .i64 d3] := by
    rw [hW2]
    exact own_two (xs := [.int .i64 R, .int .i64 k, .bool t, .bool s]) (ys := [.bool t0, .int .i64 d0, .bool t1, .int .i64 d1, .bool t2, .int .i64 d2, .bool t3, .int .i64 d3]) (Below.refl _ _)
  obtain ⟨hC2, hD2⟩ := hCD
  rw [← opn_0 l] at hD2
  have hA2 := hA1.below hb2 hA1.lt
  have hB2 := hB1.below hb2 hB1.lt
  have hbw2 := hbw1.trans (hb2.mono hbw1.size)
  have hsz1 := hbw1.size
  rw [← hW2]
  clear hW2 hA1 hB1 hbw1 hb2 a0 a1 a2 a3 b0 b1 b2 b3 b4 b5 b6 b7
  go_loopw [23] (fun i wr => ∃ j : Nat, j ≤ 4 ∧ i = .int .i64 j ∧ OwnRow wr w.heap.size 36 [.int .i64 r, .int .i64 k, .bool t, .bool s] ∧ OwnRow wr (w.heap.size + 1) 39 [.bool t0, .int .i64 d0, .bool t1, .int .i64 d1, .bool t2, .int .i64 d2, .bool t3, .int .i64 d3] ∧ OwnRow wr w1.heap.size 36 [.int .i64 R, .int .i64 k, .bool t, .bool s] ∧ OwnRow wr (w1.heap.size + 1) 39 (opn l t0 d0 t1 d1 t2 d2 t3 d3 j) ∧ Below w.heap.size w wr) (fun i _ => 4 - (intOf i).toNat)
  case atStart => exact ⟨0, by omega, rfl, hA2, hB2, hC2, hD2, hbw2⟩
  case round =>
    clear hA2 hB2 hC2 hD2 hbw2
    obtain ⟨j, hj, rfl, hA, hB, hC, hD, hbel⟩ := hrel
    by_cases hlt : j < 4
    · have hj4 : j = 0 ∨ j = 1 ∨ j = 2 ∨ j = 3 := by omega
      clear hlt hj
      have HN : Hid (∀ i v, OwnRow (wr.setCell ⟨w1.heap.size + 1, i, none⟩ v) w.heap.size 36 [.int .i64 r, .int .i64 k, .bool t, .bool s] ∧ OwnRow (wr.setCell ⟨w1.heap.size + 1, i, none⟩ v) (w.heap.size + 1) 39 [.bool t0, .int .i64 d0, .bool t1, .int .i64 d1, .bool t2, .int .i64 d2, .bool t3, .int .i64 d3] ∧ OwnRow (wr.setCell ⟨w1.heap.size + 1, i, none⟩ v) w1.heap.size 36 [.int .i64 R, .int .i64 k, .bool t, .bool s] ∧ Below w.heap.size w (wr.setCell ⟨w1.heap.size + 1, i, none⟩ v)) := fun i v => ⟨hA.beside (by omega) v, hB.beside (by omega) v, hC.beside (by omega) v, hbel.setCell (by simp; omega) v⟩
      have HS : Hid (∀ i v, OwnRow (wr.setCell ⟨w1.heap.size + 1, i, none⟩ v) (w1.heap.size + 1) 39 ((opn l t0 d0 t1 d1 t2 d2 t3 d3 j).set i v)) := fun i v => hD.set i v
      clear hA hB hC hbel
      have hfz := hD.free
      rcases hj4 with rfl | rfl | rfl | rfl
      · have HE : Hid ((opn l t0 d0 t1 d1 t2 d2 t3 d3 0).set 1 (.int .i64 (ls l d0)) = opn l t0 d0 t1 d1 t2 d2 t3 d3 1) := by show _ = _; rw [opn_0, opn_1]; rfl
        rw [opn_0] at hD
        have hcd : wr.cell? ⟨w1.heap.size + 1, 1, none⟩ = some (.int .i64 d0) := by rw [hD.cell]; rfl
        have hfd := hfz 1
        clear hfz hD
        go_wp2
        go_roundw
        case rel => exact ⟨1, by omega, rfl, (HN.out _ _).1, (HN.out _ _).2.1, (HN.out _ _).2.2.1, HE.out ▸ HS.out 1 _, (HN.out _ _).2.2.2⟩
        case measure => simp [intOf]
      · have HE : Hid ((opn l t0 d0 t1 d1 t2 d2 t3 d3 1).set 3 (.int .i64 (ls l d1)) = opn l t0 d0 t1 d1 t2 d2 t3 d3 2) := by show _ = _; rw [opn_1, opn_2]; rfl
        rw [opn_1] at hD
        have hcd : wr.cell? ⟨w1.heap.size + 1, 3, none⟩ = some (.int .i64 d1) := by rw [hD.cell]; rfl
        have hfd := hfz 3
        clear hfz hD
        go_wp2
        go_roundw
        case rel => exact ⟨2, by omega, rfl, (HN.out _ _).1, (HN.out _ _).2.1, (HN.out _ _).2.2.1, HE.out ▸ HS.out 3 _, (HN.out _ _).2.2.2⟩
        case measure => simp [intOf]
      · have HE : Hid ((opn l t0 d0 t1 d1 t2 d2 t3 d3 2).set 5 (.int .i64 (ls l d2)) = opn l t0 d0 t1 d1 t2 d2 t3 d3 3) := by show _ = _; rw [opn_2, opn_3]; rfl
        rw [opn_2] at hD
        have hcd : wr.cell? ⟨w1.heap.size + 1, 5, none⟩ = some (.int .i64 d2) := by rw [hD.cell]; rfl
        have hfd := hfz 5
        clear hfz hD
        go_wp2
        go_roundw
        case rel => exact ⟨3, by omega, rfl, (HN.out _ _).1, (HN.out _ _).2.1, (HN.out _ _).2.2.1, HE.out ▸ HS.out 5 _, (HN.out _ _).2.2.2⟩
        case measure => simp [intOf]
      · have HE : Hid ((opn l t0 d0 t1 d1 t2 d2 t3 d3 3).set 7 (.int .i64 (ls l d3)) = opn l t0 d0 t1 d1 t2 d2 t3 d3 4) := by show _ = _; rw [opn_3, opn_4]; rfl
        rw [opn_3] at hD
        have hcd : wr.cell? ⟨w1.heap.size + 1, 7, none⟩ = some (.int .i64 d3) := by rw [hD.cell]; rfl
        have hfd := hfz 7
        clear hfz hD
        go_wp2
        go_roundw
        case rel => exact ⟨4, by omega, rfl, (HN.out _ _).1, (HN.out _ _).2.1, (HN.out _ _).2.2.1, HE.out ▸ HS.out 7 _, (HN.out _ _).2.2.2⟩
        case measure => simp [intOf]
    · obtain rfl : j = 4 := by omega
      rw [opn_4] at hD
      have H2 : Hid (∀ w1, Calls Try.prog 21 #[.agg #[.int .i64 R, .int .i64 k, .bool t, .bool s], .agg #[.bool t0, .int .i64 (ls l d0), .bool t1, .int .i64 (ls l d1), .bool t2, .int .i64 (ls l d2), .bool t3, .int .i64 (ls l d3)], .int .i64 y] w1 fun e w' => e = .returned (.int .i64 Q) ∧ Below w1.heap.size w1 w') := fun w1 => by rw [hQ.out]; exact page_any R k t s t0 (ls l d0) t1 (ls l d1) t2 (ls l d2) t3 (ls l d3) y w1
      clear hP hQ hR hlt hj
      generalize ls l d0 = e0 at *
      generalize ls l d1 = e1 at *
      generalize ls l d2 = e2 at *
      generalize ls l d3 = e3 at *
      obtain ⟨a0, a1, a2, a3⟩ := hA.four
      obtain ⟨⟨b0, b1, b2, b3⟩, ⟨b4, b5, b6, b7⟩⟩ := hB.eight
      rcases hcase with hp | ⟨hp, hq⟩
      · go_wp2_with fail
        refine (H1.out _).mono ?_
        rintro e w4 ⟨rfl, hb4⟩
        go_wp2
        go_ret
        exact ⟨rfl, hbel.trans (hb4.mono hbel.size)⟩
      · go_wp2_with fail
        refine (H1.out _).mono ?_
        rintro e w4 ⟨rfl, hb4⟩
        have hC4 := hC.below hb4 hC.lt
        have hD4 := hD.below hb4 hD.lt
        have hbw4 := hbel.trans (hb4.mono hbel.size)
        clear a0 a1 a2 a3 b0 b1 b2 b3 b4 b5 b6 b7 hA hB hC hD hb4 hbel
        obtain ⟨a0, a1, a2, a3⟩ := hC4.four
        obtain ⟨⟨b0, b1, b2, b3⟩, ⟨b4, b5, b6, b7⟩⟩ := hD4.eight
        go_wp2_with fail
        refine (H2.out _).mono ?_
        rintro e w5 ⟨rfl, hb5⟩
        go_wp2
        go_ret
        exact ⟨rfl, hbw4.trans (hb5.mono hbw4.size)⟩

theorem checkMore_any (r k : Int) (t s : Bool) (t0 : Bool) (d0 : Int) (t1 : Bool) (d1 : Int) (t2 : Bool) (d2 : Int) (t3 : Bool) (d3 : Int) (y m l : Int) (w : World) (_ : (Lit.int .i64 y).wf = true) (_ : (Lit.int .i64 m).wf = true) (_ : (Lit.int .i64 l).wf = true) :
    Calls Try.prog 6 #[.agg #[.int .i64 r, .int .i64 k, .bool t, .bool s], keysV t0 d0 t1 d1 t2 d2 t3 d3, .int .i64 y, .int .i64 m, .int .i64 l] w fun e w' => e = .returned (.bool true) ∧ Below w.heap.size w w' :=
  checkMore_walk r k t s t0 d0 t1 d1 t2 d2 t3 d3 y m l w

end Go.Proofs.Ytkmkjngfoodehad

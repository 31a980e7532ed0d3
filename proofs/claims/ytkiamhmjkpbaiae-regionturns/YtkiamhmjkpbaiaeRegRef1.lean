/- The contracts of the document's own answers framewardenref.HFind and framewardenref.HCount. -/
import Derived.Test.YtkiamhmjkpbaiaeReg3
namespace Go.Proofs.Ytkiamhmjkpbaiae
open Go.RowKit
set_option linter.unusedSimpArgs false
set_option linter.unusedVariables false

theorem pn_in (x : R6) : pn (fun p => iv x.1 x.2.1 p && iv 0 64 p) 64 = pn (iv x.1 x.2.1) 64 :=
  pn_congr 64 (fun p hp => by rw [show iv 0 64 (p : Int) = true from iv_iff.2 ⟨by omega, by omega⟩, Bool.and_true])

set_option maxHeartbeats 800000 in
theorem hfind_any (v : Value) (l : List R6) (p : Int) (B : Nat) (w : World) (h : IsRecs encR B w v l) (hB : B ≤ 4398046511104) (hwf : ∀ x ∈ l, wfR x) (hp0 : bdI p) :
    Calls Try.prog 10 #[v, .int .i64 p] w fun e w' => e = .returned (attO (atR l p)) ∧ Below w.heap.size w w' := by
  obtain ⟨a, cap, rfl, h1, hl, hc'⟩ := h
  obtain ⟨n, hn⟩ : ∃ n, Hid (n = l.length) := ⟨_, rfl⟩
  rw [← hn.out] at hl hc' ⊢
  obtain ⟨A, hA⟩ : ∃ A, Hid (A = atR l p) := ⟨_, rfl⟩
  rw [← hA.out]
  go_enter Try.func10, Try.ntmps10
  go_wp2_with fail
  go_loopw [10] (fun i wr => ∃ k : Nat, k ≤ n ∧ i = .int .i64 k ∧ Hid (A = atR (l.drop k) p) ∧ Hid (OwnRow wr w.heap.size 24 [.int .i64 0, .int .i64 0, .bool false, .bool false]) ∧ Below w.heap.size w wr) (fun i _ => n - (intOf i).toNat)
  case atStart => exact ⟨0, Nat.zero_le _, rfl, by rw [List.drop_zero]; exact hA, heap_alloc_new w _, (Below.refl _ _).alloc (Nat.le_refl _) _⟩
  case round =>
    obtain ⟨k, hk, rfl, hok, hbox, hbel⟩ := hrel
    obtain ⟨⟨c0, c1, c2, c3⟩, f0, f1, f2, f3⟩ := hbox.out.quadf
    have hz : w.heap.size < wr.heap.size := hbox.out.lt
    by_cases hlt : k < n
    · obtain ⟨b, off, rfl, hc⟩ := hc' (by omega)
      have HD : Hid _ := at_drop l p k (by rw [← hn.out]; exact hlt)
      have hwx : wfR (l.getD k zR) := by
        rw [List.getD_eq_getElem?_getD, List.getElem?_eq_getElem (by rw [← hn.out]; exact hlt)]
        exact hwf _ (List.getElem_mem _)
      obtain ⟨⟨pf, pt, pr, pk, pg, ps⟩, hp⟩ : ∃ p, p = l.getD k zR := ⟨_, rfl⟩
      obtain ⟨hk0, hk1, hk2, hk3, hk4, hk5⟩ := cell6 hc hbel k (by rw [← hn.out]; exact hlt) hp
      rw [← hp] at HD hwx
      clear hp
      obtain ⟨⟨y1, y2⟩, y3, y4⟩ := hwx
      obtain ⟨y5, y6⟩ := hp0
      simp only at y1 y2 y3 y4
      have hbx : Hid (∀ o, Below wr.heap.size wr (wr.alloc o)) := fun o => (Below.refl _ _).alloc (Nat.le_refl _) _
      by_cases h1 : pf ≤ p
      · by_cases h2 : p < pt
        · have h4 : p ≤ pt - 1 := by omega
          have h5 : pf < pt := by omega
          go_wp2
          have hO : A = some (pr, pk, pg, ps) := by
            rw [hok.out, HD.out, if_pos (iv_iff.2 ⟨h1, h2⟩)]
          subst hO
          refine bodyPost_ret (v := attO (some (pr, pk, pg, ps))) (by simp [results, Try.results10, go_sem, c0, c1, c2, c3, hz]) rfl ⟨rfl, ?_⟩
          exact ((((hbel.setCell (by simp) _).setCell (by simp) _).setCell (by simp) _).setCell (by simp) _).alloc (by simp; omega) _
        · by_cases h3 : pt = -9223372036854775808
          · subst h3
            have hd9 : decide (pf < -9223372036854775808) = false := by simp; omega
            have hd8 : decide (p ≤ 9223372036854775807) = true := by simp; omega
            go_wp2
            go_roundw
            case rel => exact ⟨k + 1, by omega, by go_num, by show _ = _; rw [hok.out, HD.out, if_neg (by rw [iv_iff]; simp only; omega)], hbox.out.below (hbx.out _) hbox.out.lt, hbel.trans ((hbx.out _).mono hbel.size)⟩
            case measure => simp [intOf]; omega
            all_goals exact ⟨⟨k + 1, by omega, by go_num, by show _ = _; rw [hok.out, HD.out, if_neg (by rw [iv_iff]; simp only; omega)], hbox.out.below (hbx.out _) hbox.out.lt, hbel.trans ((hbx.out _).mono hbel.size)⟩, by simp [intOf]; omega⟩
          · have hd9 : decide (p ≤ pt - 1) = false := by simp; omega
            have hpt : -9223372036854775807 ≤ pt := by omega
            go_wp2
            go_roundw
            case rel => exact ⟨k + 1, by omega, by go_num, by show _ = _; rw [hok.out, HD.out, if_neg (by rw [iv_iff]; simp only; omega)], hbox.out.below (hbx.out _) hbox.out.lt, hbel.trans ((hbx.out _).mono hbel.size)⟩
            case measure => simp [intOf]; omega
      · go_wp2
        go_roundw
        case rel => exact ⟨k + 1, by omega, by go_num, by show _ = _; rw [hok.out, HD.out, if_neg (by rw [iv_iff]; simp only; omega)], hbox.out.below (hbx.out _) hbox.out.lt, hbel.trans ((hbx.out _).mono hbel.size)⟩
        case measure => simp [intOf]; omega
    · go_wp2
      have hO : A = none := by
        rw [hok.out, List.drop_of_length_le (by rw [← hn.out]; omega)]
        rfl
      subst hO
      refine bodyPost_ret (v := attO none) (by simp [results, Try.results10, go_sem, c0, c1, c2, c3, hz, zA]) rfl ⟨rfl, ?_⟩
      exact (((hbel.setCell (by simp) _).setCell (by simp) _).setCell (by simp) _).setCell (by simp) _

set_option maxHeartbeats 800000 in
theorem hcount_any (v : Value) (l : List R6) (B : Nat) (w : World) (h : IsRecs encR B w v l) (hB : B ≤ 4398046511104) :
    Calls Try.prog 14 #[v] w fun e w' => e = .returned (.int .i64 (cnt l 0 64)) ∧ Below w.heap.size w w' := by
  obtain ⟨a, cap, rfl, h1, hl, hc'⟩ := h
  obtain ⟨n, hn⟩ : ∃ n, Hid (n = l.length) := ⟨_, rfl⟩
  rw [← hn.out] at hl hc' ⊢
  go_enter Try.func14, Try.ntmps14
  go_wp2_with fail
  go_loopw [3, 9] (fun s i wr => ∃ k : Nat, ∃ S : Int, k ≤ n ∧ s = .int .i64 S ∧ i = .int .i64 k ∧ Hid (S = cnt (l.take k) 0 64) ∧ 0 ≤ S ∧ S ≤ 64 * (k : Int) ∧ Below w.heap.size w wr) (fun _ i _ => n - (intOf i).toNat)
  case atStart => exact ⟨0, 0, Nat.zero_le _, rfl, rfl, rfl, Int.le_refl _, by simp, Below.refl _ _⟩
  case round =>
    obtain ⟨k, S, hk, rfl, rfl, hS, hS0, hS1, hbel⟩ := hrel
    by_cases hlt : k < n
    · obtain ⟨b, off, rfl, hc⟩ := hc' (by omega)
      have HT := cnt_snoc (l.getD k zR) 0 64 (l.take k)
      rw [← take_snoc l k (by rw [← hn.out]; exact hlt), ← hS.out, clip_pn _ (Int.le_refl _) (Int.le_refl _), pn_in] at HT
      obtain ⟨⟨pf, pt, pr, pk, pg, ps⟩, hp⟩ : ∃ p, p = l.getD k zR := ⟨_, rfl⟩
      obtain ⟨hk0, hk1, hk2, hk3, hk4, hk5⟩ := cell6 hc hbel k (by rw [← hn.out]; exact hlt) hp
      rw [← hp] at HT
      have HH : Hid (cnt (l.take (k + 1)) 0 64 = S + pn (iv pf pt) 64) := HT
      clear hp HT
      have hdk : decide ((k : Int) < (n : Int)) = true := by simp; omega
      go_wp2_with fail
      have hbx : Below wr.heap.size wr (wr.alloc (.cells #[.int .i64 pf, .int .i64 pt, .int .i64 pr, .int .i64 pk, .bool pg, .bool ps] 31)) := (Below.refl _ _).alloc (Nat.le_refl _) _
      have hbox : OwnRow (wr.alloc (.cells #[.int .i64 pf, .int .i64 pt, .int .i64 pr, .int .i64 pk, .bool pg, .bool ps] 31)) wr.heap.size 31 (encR (pf, pt, pr, pk, pg, ps)) := heap_alloc_new wr _
      generalize (wr.alloc (.cells #[.int .i64 pf, .int .i64 pt, .int .i64 pr, .int .i64 pk, .bool pg, .bool ps] 31)) = W1 at hbx hbox ⊢
      obtain ⟨c0, c1, c2, c3, c4, c5⟩ := hbox.six
      have c0' : W1.cell? ⟨wr.heap.size, 0, none⟩ = some (.int .i64 pf) := c0
      have c1' : W1.cell? ⟨wr.heap.size, 1, none⟩ = some (.int .i64 pt) := c1
      clear c0 c1 c2 c3 c4 c5 hbox
      clear hdk
      go_loopw [3, 13] (fun s i ws => ∃ j : Nat, ∃ S2 : Int, j ≤ 64 ∧ s = .int .i64 S2 ∧ i = .int .i64 j ∧ Hid (S2 = S + pn (iv pf pt) j) ∧ 0 ≤ S2 ∧ S2 ≤ 64 * (k : Int) + j ∧ ws = W1) (fun _ i _ => 64 - (intOf i).toNat)
      case atStart => exact ⟨0, S, Nat.zero_le _, rfl, rfl, by simp [Hid, pn], hS0, by omega, rfl⟩
      case round =>
        obtain ⟨j, S2, hj, rfl, rfl, hS2, hz0, hz1, rfl⟩ := hrel
        by_cases hj2 : j < 64
        · have HP : Hid (pn (iv pf pt) (j + 1) = pn (iv pf pt) j + if iv pf pt j then 1 else 0) := rfl
          by_cases h1 : pf ≤ (j : Int)
          · by_cases h2 : (j : Int) < pt
            · go_wp2
              go_roundw
              case rel => exact ⟨j + 1, S2 + 1, by omega, by go_num, by go_num, by show _ = _; rw [HP.out, if_pos (iv_iff.2 ⟨h1, h2⟩), hS2.out]; omega, by omega, by omega, trivial⟩
              case measure => simp [intOf]; omega
            · go_wp2
              go_roundw
              case rel => exact ⟨j + 1, S2, by omega, rfl, by go_num, by show _ = _; rw [HP.out, if_neg (by rw [iv_iff]; omega), hS2.out]; omega, by omega, by omega, trivial⟩
              case measure => simp [intOf]; omega
          · go_wp2
            go_roundw
            case rel => exact ⟨j + 1, S2, by omega, rfl, by go_num, by show _ = _; rw [HP.out, if_neg (by rw [iv_iff]; omega), hS2.out]; omega, by omega, by omega, trivial⟩
            case measure => simp [intOf]; omega
        · obtain rfl : j = 64 := by omega
          go_wp2
          go_roundw
          case rel => exact ⟨k + 1, S2, by omega, rfl, by go_num, by show _ = _; rw [HH.out]; exact hS2.out, by omega, by omega, hbel.trans (hbx.mono hbel.size)⟩
          case measure => simp [intOf]; omega
    · go_wp2
      go_ret
      refine ⟨ret_int ?_, hbel⟩
      have := hS.out
      rw [List.take_of_length_le (by rw [← hn.out]; omega)] at this
      exact this

end Go.Proofs.Ytkiamhmjkpbaiae

/- The contracts of framewardenref.DPack and DUnpack, and of framewardenkeep.alive4: what each call returns, and that nothing that was there is written. -/
import Derived.Test.YtgdmkmhpdijokacEntry1
namespace Go.Proofs.Ytgdmkmhpdijokac
open Go.RowKit
set_option linter.unusedSimpArgs false

set_option maxHeartbeats 400000 in
theorem dpack_any (k n : Int) (w : World) :
    Calls Try.prog 22 #[.agg #[.int .i64 k, .int .i64 n]] w fun e w' => e = .returned (.tuple #[.int .i64 (pkV k n), .int .i64 (pkE k n)]) ∧ Below w.heap.size w w' := by
  by_cases hk : k = 0 ∨ k = 1 ∨ k = 2
  · by_cases ho : okE k n
    · rw [pkE_ok ho, pkV_ok ho]
      unfold okE at ho
      rcases ho with ⟨rfl, rfl⟩ | ⟨rfl, h0, h1⟩ | ⟨rfl, h0, h1⟩
      all_goals
        clear hk
        go_enter Try.func22, Try.ntmps22
        go_wp2
        go_ret2
        exact ⟨rfl, (Below.refl _ _).alloc (Nat.le_refl _) _⟩
    · rw [pkE_range ho hk, pkV_no ho]
      unfold okE at ho
      have ho' : n < 0 ∨ 63 < n ∨ (0 ≤ n ∧ n ≤ 63 ∧ 0 < n ∧ k = 0) := by omega
      rcases hk with rfl | rfl | rfl
      all_goals
        clear ho
        rcases ho' with h | h | ⟨h1, h2, h3, h4⟩
        all_goals first
          | (exfalso; omega)
          | (go_enter Try.func22, Try.ntmps22
             go_wp2
             go_ret2
             exact ⟨rfl, (Below.refl _ _).alloc (Nat.le_refl _) _⟩)
  · rw [pkE_kind hk, pkV_no (by unfold okE; omega)]
    have h0 : (k != 0) = true := by rw [bne_iff_ne]; omega
    have h1 : (k != 1) = true := by rw [bne_iff_ne]; omega
    have h2 : (k != 2) = true := by rw [bne_iff_ne]; omega
    clear hk
    go_enter Try.func22, Try.ntmps22
    go_wp2
    go_ret2
    exact ⟨rfl, (Below.refl _ _).alloc (Nat.le_refl _) _⟩

set_option maxHeartbeats 1600000 in
theorem dunpack_no (v : Int) (w : World) (hu : ¬ upOk v) :
    Calls Try.prog 20 #[.int .i64 v] w fun e w' => e = .returned (entV 0 0 1) ∧ Below w.heap.size w w' := by
  have HN : Hid (∀ k n, pkE k n ≠ 0 ∨ pkV k n ≠ v) := fun k n => pk_ne hu
  clear hu
  go_enter Try.func20, Try.ntmps20
  go_wp2
  go_loopw [9] (fun i wr => ∃ k : Nat, k ≤ 3 ∧ i = .int .i64 k ∧ OwnRow wr w.heap.size 27 [.int .i64 0, .int .i64 0] ∧ Below w.heap.size w wr) (fun i _ => 3 - (intOf i).toNat)
  case atStart => exact ⟨0, by omega, rfl, heap_alloc_new w _, (Below.refl _ _).alloc (Nat.le_refl _) _⟩
  case round =>
    obtain ⟨k, hk, rfl, hown, hbel⟩ := hrel
    by_cases hlt : k < 3
    · have hd : decide ((k : Int) < 3) = true := by simp; omega
      go_wp2
      go_loopw [12] (fun j wr => ∃ n : Nat, n ≤ 64 ∧ j = .int .i64 n ∧ OwnRow wr w.heap.size 27 [.int .i64 0, .int .i64 0] ∧ Below w.heap.size w wr) (fun j _ => 64 - (intOf j).toNat)
      case atStart => exact ⟨0, by omega, rfl, hown, hbel⟩
      case round =>
        clear hown hbel
        obtain ⟨n, hn, rfl, hown, hbel⟩ := hrel
        by_cases hnlt : n < 64
        · go_wp2_with fail
          refine (dpack_any _ _ _).mono ?_
          rintro e w1 ⟨rfl, hb1⟩
          have hbx : Below wr.heap.size wr w1 := ((Below.refl _ _).alloc (Nat.le_refl _) _).trans (hb1.mono (by simp))
          have hown1 := hown.below hbx hown.lt
          have hbel1 := hbel.trans (hbx.mono hbel.size)
          have hnew := own_one (xs := [_, _]) hb1
          clear hb1 hbx
          have HQ := HN.out k n
          by_cases he : pkE (k : Int) (n : Int) = 0
          · have hx : (pkV (k : Int) (n : Int) == v) = false := by
              rw [beq_eq_false_iff_ne]
              rcases HQ with h | h
              · exact absurd he h
              · exact h
            rw [he]
            clear he HQ
            generalize pkV (k : Int) (n : Int) = X at *
            clear hnew
            go_wp2
            go_roundw
            case rel => exact ⟨n + 1, by omega, by go_num, hown1, hbel1⟩
            case measure => simp [intOf]; omega
          · have hx : (pkE (k : Int) (n : Int) == 0) = false := by rw [beq_eq_false_iff_ne]; exact he
            clear he HQ
            generalize pkE (k : Int) (n : Int) = E at *
            generalize pkV (k : Int) (n : Int) = X at *
            clear hnew
            go_wp2
            go_roundw
            case rel => exact ⟨n + 1, by omega, by go_num, hown1, hbel1⟩
            case measure => simp [intOf]; omega
        · go_wp2
          exact ⟨⟨k + 1, by omega, by go_num, hown, hbel⟩, by simp [intOf]; omega⟩
    · obtain ⟨⟨c0, c1⟩, f0, f1⟩ := hown.pair
      clear hown
      go_wp2
      exact bodyPost_ret (v := entV 0 0 1) (by simp [results, Try.results20, go_sem, c0, c1]) rfl ⟨rfl, (hbel.setCell (by simp) _).setCell (by simp) _⟩

set_option maxHeartbeats 1600000 in
theorem dunpack_ok (v : Int) (w : World) (hu :  upOk v) :
    Calls Try.prog 20 #[.int .i64 v] w fun e w' => e = .returned (entV (v % 256) (v / 256) 0) ∧ Below w.heap.size w w' := by
  have hpe := pkE_ok hu
  have hpv := pkV_ok hu
  rw [of_up] at hpv
  have HN : Hid (∀ k n, ¬ (k = v % 256 ∧ n = v / 256) → pkE k n ≠ 0 ∨ pkV k n ≠ v) := fun k n => pk_ne'
  have hK : 0 ≤ v % 256 ∧ v % 256 < 3 ∧ 0 ≤ v / 256 ∧ v / 256 < 64 := by unfold upOk okE at hu; omega
  obtain ⟨hK0, hK1, hN0, hN1⟩ := hK
  clear hu
  generalize v % 256 = K at *
  generalize v / 256 = N at *
  have HPE : Hid (pkE K N = 0) := hpe
  have HPV : Hid (pkV K N = v) := hpv
  clear hpe hpv
  go_enter Try.func20, Try.ntmps20
  go_wp2
  go_loopw [9] (fun i wr => ∃ k : Nat, k ≤ 3 ∧ (k : Int) ≤ K ∧ i = .int .i64 k ∧ OwnRow wr w.heap.size 27 [.int .i64 0, .int .i64 0] ∧ Below w.heap.size w wr) (fun i _ => 3 - (intOf i).toNat)
  case atStart => exact ⟨0, by omega, by omega, rfl, heap_alloc_new w _, (Below.refl _ _).alloc (Nat.le_refl _) _⟩
  case round =>
    obtain ⟨k, hk, hkK, rfl, hown, hbel⟩ := hrel
    by_cases hlt : k < 3
    · have hd : decide ((k : Int) < 3) = true := by simp; omega
      go_wp2
      go_loopw [12] (fun j wr => ∃ n : Nat, n ≤ 64 ∧ ((k : Int) = K → (n : Int) ≤ N) ∧ j = .int .i64 n ∧ OwnRow wr w.heap.size 27 [.int .i64 0, .int .i64 0] ∧ Below w.heap.size w wr) (fun j _ => 64 - (intOf j).toNat)
      case atStart => exact ⟨0, by omega, by omega, rfl, hown, hbel⟩
      case round =>
        clear hown hbel
        obtain ⟨n, hn, hnN, rfl, hown, hbel⟩ := hrel
        by_cases hnlt : n < 64
        · go_wp2_with fail
          refine (dpack_any _ _ _).mono ?_
          rintro e w1 ⟨rfl, hb1⟩
          have hbx : Below wr.heap.size wr w1 := ((Below.refl _ _).alloc (Nat.le_refl _) _).trans (hb1.mono (by simp))
          have hown1 := hown.below hbx hown.lt
          have hbel1 := hbel.trans (hbx.mono hbel.size)
          have hnew := own_one (xs := [_, _]) hb1
          clear hb1 hbx
          by_cases hf : (k : Int) = K ∧ (n : Int) = N
          · obtain ⟨h1, h2⟩ := hf
            have e1 := HPE.out
            have e2 := HPV.out
            rw [← h1, ← h2] at e1 e2
            rw [e1, e2]
            obtain ⟨⟨c0, c1⟩, f0, f1⟩ := hown1.pair
            obtain ⟨⟨c2, c3⟩, f2, f3⟩ := hnew.pair
            have H1 : Hid ((k : Int) = K) := h1
            have H2 : Hid ((n : Int) = N) := h2
            have hz0 := hown1.lt
            have hz1 := hnew.lt
            have hne : wr.heap.size ≠ w.heap.size := by have := hown.lt; omega
            clear hown hown1 hnew h1 h2 e1 e2
            go_wp2
            refine bodyPost_ret (v := entV k n 0) (by simp [results, Try.results20, go_sem, c0, c1, c2, c3]) rfl ⟨by rw [H1.out, H2.out], (hbel1.setCell (by simp) _).setCell (by simp) _⟩
          · have HQ := HN.out k n hf
            by_cases he : pkE (k : Int) (n : Int) = 0
            · have hx : (pkV (k : Int) (n : Int) == v) = false := by
                rw [beq_eq_false_iff_ne]
                rcases HQ with h | h
                · exact absurd he h
                · exact h
              rw [he]
              clear he HQ
              generalize pkV (k : Int) (n : Int) = X at *
              clear hnew
              go_wp2
              go_roundw
              case rel => exact ⟨n + 1, by omega, by omega, by go_num, hown1, hbel1⟩
              case measure => simp [intOf]; omega
            · have hx : (pkE (k : Int) (n : Int) == 0) = false := by rw [beq_eq_false_iff_ne]; exact he
              clear he HQ
              generalize pkE (k : Int) (n : Int) = E at *
              generalize pkV (k : Int) (n : Int) = X at *
              clear hnew
              go_wp2
              go_roundw
              case rel => exact ⟨n + 1, by omega, by omega, by go_num, hown1, hbel1⟩
              case measure => simp [intOf]; omega
        · go_wp2
          exact ⟨⟨k + 1, by omega, by omega, by go_num, hown, hbel⟩, by simp [intOf]; omega⟩
    · exfalso; omega

theorem dunpack_any (v : Int) (w : World) :
    Calls Try.prog 20 #[.int .i64 v] w fun e w' => e = .returned (entV (upK v) (upN v) (upE v)) ∧ Below w.heap.size w w' := by
  by_cases hu : upOk v
  · rw [upK_ok hu, upN_ok hu, upE_ok hu]; exact dunpack_ok v w hu
  · rw [upK_no hu, upN_no hu, upE_no hu]; exact dunpack_no v w hu

end Go.Proofs.Ytgdmkmhpdijokac

/- The contracts of the document's own answers framewardenref.GPage and GTags. -/
import Derived.Test.YtkmkjngfoodehadCheck3
namespace Go.Proofs.Ytkmkjngfoodehad
open Go.RowKit
set_option linter.unusedSimpArgs false
set_option linter.unusedVariables false

theorem pg_no {r k d0 d1 d2 d3 y : Int} (h : ¬ way3 y ∨ hs r y = false) : pg r k d0 d1 d2 d3 y = 2 := by
  unfold pg
  rw [if_pos]
  rcases h with h | h
  · left
    rw [← Bool.not_eq_true, iw_iff]
    exact h
  · exact Or.inr h

theorem pg_run {r k d0 d1 d2 d3 : Int} (h : hs r 4 = true) : pg r k d0 d1 d2 d3 4 = 0 := by
  unfold pg
  rw [if_neg (by rw [h]; decide), if_neg (by simp)]

theorem pg_key {r k d0 d1 d2 d3 y : Int} (hy : y = 1 ∨ y = 2) (h : hs r y = true) : pg r k d0 d1 d2 d3 y = if dn d0 d1 d2 d3 k y = true then 3 else 0 := by
  unfold pg
  have h1 : iw y = true := iw_iff.2 (by unfold way3; omega)
  rw [if_neg (by rw [h, h1]; decide)]
  have h4 : y ≠ 4 := by omega
  simp [h4]

theorem dn_ok {d0 d1 d2 d3 k y : Int} (h : dn d0 d1 d2 d3 k y = false) : 0 ≤ k ∧ k ≤ 3 := by
  unfold dn at h
  split at h
  · cases h
  · omega

theorem dn_at {d0 d1 d2 d3 k y : Int} (h0 : 0 ≤ k) (h3 : k ≤ 3) : hs (dk d0 d1 d2 d3 k) y = dn d0 d1 d2 d3 k y := by
  unfold dn
  rw [if_neg (by omega)]

theorem dk_0 (d0 d1 d2 d3 : Int) : dk d0 d1 d2 d3 0 = d0 := by simp [dk]
theorem dk_1 (d0 d1 d2 d3 : Int) : dk d0 d1 d2 d3 1 = d1 := by simp [dk]
theorem dk_2 (d0 d1 d2 d3 : Int) : dk d0 d1 d2 d3 2 = d2 := by simp [dk]
theorem dk_3 (d0 d1 d2 d3 : Int) : dk d0 d1 d2 d3 3 = d3 := by simp [dk]

set_option maxHeartbeats 1600000 in
theorem gpage_key (r k : Int) (t s : Bool) (t0 : Bool) (d0 : Int) (t1 : Bool) (d1 : Int) (t2 : Bool) (d2 : Int) (t3 : Bool) (d3 : Int) (y : Int) (w : World) (hy : y = 1 ∨ y = 2) (hr : hs r y = true) :
    Calls Try.prog 22 #[.agg #[.int .i64 r, .int .i64 k, .bool t, .bool s], keysV t0 d0 t1 d1 t2 d2 t3 d3, .int .i64 y] w fun e w' => e = .returned (.int .i64 (pg r k d0 d1 d2 d3 y)) ∧ Below w.heap.size w w' := by
  have hP : Hid (pg r k d0 d1 d2 d3 y = if dn d0 d1 d2 d3 k y = true then 3 else 0) := pg_key hy hr
  have HB : Hid (∀ n w1, Calls Try.prog 29 #[.int .i64 n, .int .i64 y] w1 fun e w' => e = .returned (.bool (hs n y)) ∧ w1 = w') := fun n w1 => gbit_any n y w1 (by unfold way3; omega)
  have HD : Hid (dn d0 d1 d2 d3 k y = false → 0 ≤ k ∧ k ≤ 3) := dn_ok
  have HA0 : Hid (0 = k → hs d0 y = dn d0 d1 d2 d3 k y) := fun h => by subst h; rw [← dn_at (by omega) (by omega), dk_0]
  have HA1 : Hid (1 = k → hs d1 y = dn d0 d1 d2 d3 k y) := fun h => by subst h; rw [← dn_at (by omega) (by omega), dk_1]
  have HA2 : Hid (2 = k → hs d2 y = dn d0 d1 d2 d3 k y) := fun h => by subst h; rw [← dn_at (by omega) (by omega), dk_2]
  have HA3 : Hid (3 = k → hs d3 y = dn d0 d1 d2 d3 k y) := fun h => by subst h; rw [← dn_at (by omega) (by omega), dk_3]
  generalize pg r k d0 d1 d2 d3 y = P at *
  generalize dn d0 d1 d2 d3 k y = D at *
  have hbe : Hid (∀ o1 o2, Below w.heap.size w ((w.alloc o1).alloc o2)) := fun o1 o2 => ((Below.refl _ _).alloc (Nat.le_refl _) _).alloc (by simp) _
  have hown0 : Hid (∀ o1, OwnRow ((w.alloc (.cells #[.int .i64 r, .int .i64 k, .bool t, .bool s] 36)).alloc o1) w.heap.size 36 [.int .i64 r, .int .i64 k, .bool t, .bool s]) := fun o1 => by
    have h1 : OwnRow (w.alloc (.cells #[.int .i64 r, .int .i64 k, .bool t, .bool s] 36)) w.heap.size 36 [.int .i64 r, .int .i64 k, .bool t, .bool s] := heap_alloc_new w _
    exact h1.below ((Below.refl _ _).alloc (Nat.le_refl _) _) h1.lt
  rcases hy with rfl | rfl
  all_goals
    go_enter Try.func22, Try.ntmps22
    go_wp2_with (go_at_call 29; refine (HB.out _ _).mono ?_; rintro e w' ⟨rfl, rfl⟩)
    go_loopw [29] (fun i wr => ∃ j : Nat, j ≤ 4 ∧ (D = false → (j : Int) ≤ k) ∧ i = .int .i64 j ∧ OwnRow wr w.heap.size 36 [.int .i64 r, .int .i64 k, .bool t, .bool s] ∧ Below w.heap.size w wr) (fun i _ => 4 - (intOf i).toNat)
    case atStart => exact ⟨0, by omega, fun h => (HD.out h).1, rfl, hown0.out _, hbe.out _ _⟩
    case round =>
      obtain ⟨j, hj, hjk, rfl, hown, hbel⟩ := hrel
      have hc1 : wr.cell? ⟨w.heap.size, 1, none⟩ = some (.int .i64 k) := by rw [hown.cell]; rfl
      have hx0 : ∀ w : World, (Instr.index 39 (.agg #[.bool t0, .int .i64 d0, .bool t1, .int .i64 d1, .bool t2, .int .i64 d2, .bool t3, .int .i64 d3]) (.int .i64 0)).run Try.prog w = .ok (.agg #[.bool t0, .int .i64 d0]) w := fun _ => by kernel_rfl
      have hx1 : ∀ w : World, (Instr.index 39 (.agg #[.bool t0, .int .i64 d0, .bool t1, .int .i64 d1, .bool t2, .int .i64 d2, .bool t3, .int .i64 d3]) (.int .i64 1)).run Try.prog w = .ok (.agg #[.bool t1, .int .i64 d1]) w := fun _ => by kernel_rfl
      have hx2 : ∀ w : World, (Instr.index 39 (.agg #[.bool t0, .int .i64 d0, .bool t1, .int .i64 d1, .bool t2, .int .i64 d2, .bool t3, .int .i64 d3]) (.int .i64 2)).run Try.prog w = .ok (.agg #[.bool t2, .int .i64 d2]) w := fun _ => by kernel_rfl
      have hx3 : ∀ w : World, (Instr.index 39 (.agg #[.bool t0, .int .i64 d0, .bool t1, .int .i64 d1, .bool t2, .int .i64 d2, .bool t3, .int .i64 d3]) (.int .i64 3)).run Try.prog w = .ok (.agg #[.bool t3, .int .i64 d3]) w := fun _ => by kernel_rfl
      have hz := hown.lt
      have HN : Hid (∀ o, OwnRow (wr.alloc o) w.heap.size 36 [.int .i64 r, .int .i64 k, .bool t, .bool s] ∧ Below w.heap.size w (wr.alloc o)) := fun o => ⟨hown.below ((Below.refl _ _).alloc (Nat.le_refl _) _) hown.lt, hbel.alloc hbel.size _⟩
      by_cases hlt : j < 4
      · have hj4 : j = 0 ∨ j = 1 ∨ j = 2 ∨ j = 3 := by omega
        cases D
        · have hjk' := hjk rfl
          clear hjk
          rcases hj4 with rfl | rfl | rfl | rfl
          · by_cases hk : (0 : Int) = k
            · have hd := HA0.out hk
              obtain rfl : P = 0 := by rw [hP.out]; rfl
              clear hP HA0 HA1 HA2 HA3 HD hjk'
              subst hk
              go_wp2_with (go_at_call 29; refine (HB.out _ _).mono ?_; rintro e w' ⟨rfl, rfl⟩)
              go_ret
              exact ⟨rfl, (HN.out _).2⟩
            · have hne : ((0 : Int) == k) = false := by simp [hk]
              clear hP HA0 HA1 HA2 HA3
              go_wp2_with (go_at_call 29; refine (HB.out _ _).mono ?_; rintro e w' ⟨rfl, rfl⟩)
              go_roundw
              case rel => exact ⟨1, by omega, fun _ => by omega, rfl, (HN.out _).1, (HN.out _).2⟩
              case measure => simp [intOf]
          · by_cases hk : (1 : Int) = k
            · have hd := HA1.out hk
              obtain rfl : P = 0 := by rw [hP.out]; rfl
              clear hP HA0 HA1 HA2 HA3 HD hjk'
              subst hk
              go_wp2_with (go_at_call 29; refine (HB.out _ _).mono ?_; rintro e w' ⟨rfl, rfl⟩)
              go_ret
              exact ⟨rfl, (HN.out _).2⟩
            · have hne : ((1 : Int) == k) = false := by simp [hk]
              clear hP HA0 HA1 HA2 HA3
              go_wp2_with (go_at_call 29; refine (HB.out _ _).mono ?_; rintro e w' ⟨rfl, rfl⟩)
              go_roundw
              case rel => exact ⟨2, by omega, fun _ => by omega, rfl, (HN.out _).1, (HN.out _).2⟩
              case measure => simp [intOf]
          · by_cases hk : (2 : Int) = k
            · have hd := HA2.out hk
              obtain rfl : P = 0 := by rw [hP.out]; rfl
              clear hP HA0 HA1 HA2 HA3 HD hjk'
              subst hk
              go_wp2_with (go_at_call 29; refine (HB.out _ _).mono ?_; rintro e w' ⟨rfl, rfl⟩)
              go_ret
              exact ⟨rfl, (HN.out _).2⟩
            · have hne : ((2 : Int) == k) = false := by simp [hk]
              clear hP HA0 HA1 HA2 HA3
              go_wp2_with (go_at_call 29; refine (HB.out _ _).mono ?_; rintro e w' ⟨rfl, rfl⟩)
              go_roundw
              case rel => exact ⟨3, by omega, fun _ => by omega, rfl, (HN.out _).1, (HN.out _).2⟩
              case measure => simp [intOf]
          · by_cases hk : (3 : Int) = k
            · have hd := HA3.out hk
              obtain rfl : P = 0 := by rw [hP.out]; rfl
              clear hP HA0 HA1 HA2 HA3 HD hjk'
              subst hk
              go_wp2_with (go_at_call 29; refine (HB.out _ _).mono ?_; rintro e w' ⟨rfl, rfl⟩)
              go_ret
              exact ⟨rfl, (HN.out _).2⟩
            · have hne : ((3 : Int) == k) = false := by simp [hk]
              clear hP HA0 HA1 HA2 HA3
              go_wp2_with (go_at_call 29; refine (HB.out _ _).mono ?_; rintro e w' ⟨rfl, rfl⟩)
              go_roundw
              case rel => exact ⟨4, by omega, fun _ => by omega, rfl, (HN.out _).1, (HN.out _).2⟩
              case measure => simp [intOf]
        · clear hjk
          rcases hj4 with rfl | rfl | rfl | rfl
          · by_cases hk : (0 : Int) = k
            · have hd := HA0.out hk
              clear hP HA0 HA1 HA2 HA3 HD
              subst hk
              go_wp2_with (go_at_call 29; refine (HB.out _ _).mono ?_; rintro e w' ⟨rfl, rfl⟩)
              go_roundw
              case rel => exact ⟨1, by omega, (fun h => by cases h), rfl, (HN.out _).1, (HN.out _).2⟩
              case measure => simp [intOf]
            · have hne : ((0 : Int) == k) = false := by simp [hk]
              clear hP HA0 HA1 HA2 HA3 HD
              go_wp2_with (go_at_call 29; refine (HB.out _ _).mono ?_; rintro e w' ⟨rfl, rfl⟩)
              go_roundw
              case rel => exact ⟨1, by omega, (fun h => by cases h), rfl, (HN.out _).1, (HN.out _).2⟩
              case measure => simp [intOf]
          · by_cases hk : (1 : Int) = k
            · have hd := HA1.out hk
              clear hP HA0 HA1 HA2 HA3 HD
              subst hk
              go_wp2_with (go_at_call 29; refine (HB.out _ _).mono ?_; rintro e w' ⟨rfl, rfl⟩)
              go_roundw
              case rel => exact ⟨2, by omega, (fun h => by cases h), rfl, (HN.out _).1, (HN.out _).2⟩
              case measure => simp [intOf]
            · have hne : ((1 : Int) == k) = false := by simp [hk]
              clear hP HA0 HA1 HA2 HA3 HD
              go_wp2_with (go_at_call 29; refine (HB.out _ _).mono ?_; rintro e w' ⟨rfl, rfl⟩)
              go_roundw
              case rel => exact ⟨2, by omega, (fun h => by cases h), rfl, (HN.out _).1, (HN.out _).2⟩
              case measure => simp [intOf]
          · by_cases hk : (2 : Int) = k
            · have hd := HA2.out hk
              clear hP HA0 HA1 HA2 HA3 HD
              subst hk
              go_wp2_with (go_at_call 29; refine (HB.out _ _).mono ?_; rintro e w' ⟨rfl, rfl⟩)
              go_roundw
              case rel => exact ⟨3, by omega, (fun h => by cases h), rfl, (HN.out _).1, (HN.out _).2⟩
              case measure => simp [intOf]
            · have hne : ((2 : Int) == k) = false := by simp [hk]
              clear hP HA0 HA1 HA2 HA3 HD
              go_wp2_with (go_at_call 29; refine (HB.out _ _).mono ?_; rintro e w' ⟨rfl, rfl⟩)
              go_roundw
              case rel => exact ⟨3, by omega, (fun h => by cases h), rfl, (HN.out _).1, (HN.out _).2⟩
              case measure => simp [intOf]
          · by_cases hk : (3 : Int) = k
            · have hd := HA3.out hk
              clear hP HA0 HA1 HA2 HA3 HD
              subst hk
              go_wp2_with (go_at_call 29; refine (HB.out _ _).mono ?_; rintro e w' ⟨rfl, rfl⟩)
              go_roundw
              case rel => exact ⟨4, by omega, (fun h => by cases h), rfl, (HN.out _).1, (HN.out _).2⟩
              case measure => simp [intOf]
            · have hne : ((3 : Int) == k) = false := by simp [hk]
              clear hP HA0 HA1 HA2 HA3 HD
              go_wp2_with (go_at_call 29; refine (HB.out _ _).mono ?_; rintro e w' ⟨rfl, rfl⟩)
              go_roundw
              case rel => exact ⟨4, by omega, (fun h => by cases h), rfl, (HN.out _).1, (HN.out _).2⟩
              case measure => simp [intOf]
      · obtain rfl : j = 4 := by omega
        cases D
        · exfalso
          have := HD.out rfl
          have := hjk rfl
          omega
        · obtain rfl : P = 3 := by rw [hP.out]; simp
          clear hP
          go_wp2
          go_ret
          exact ⟨rfl, hbel⟩

set_option maxHeartbeats 800000 in
theorem gpage_any (r k : Int) (t s : Bool) (t0 : Bool) (d0 : Int) (t1 : Bool) (d1 : Int) (t2 : Bool) (d2 : Int) (t3 : Bool) (d3 : Int) (y : Int) (w : World) :
    Calls Try.prog 22 #[.agg #[.int .i64 r, .int .i64 k, .bool t, .bool s], keysV t0 d0 t1 d1 t2 d2 t3 d3, .int .i64 y] w fun e w' => e = .returned (.int .i64 (pg r k d0 d1 d2 d3 y)) ∧ Below w.heap.size w w' := by
  have hbe : Hid (∀ o1 o2, Below w.heap.size w ((w.alloc o1).alloc o2)) := fun o1 o2 => ((Below.refl _ _).alloc (Nat.le_refl _) _).alloc (by simp) _
  by_cases hy : way3 y
  · by_cases hr : hs r y = true
    · rcases hy with rfl | rfl | rfl
      · exact gpage_key r k t s t0 d0 t1 d1 t2 d2 t3 d3 1 w (Or.inl rfl) hr
      · exact gpage_key r k t s t0 d0 t1 d1 t2 d2 t3 d3 2 w (Or.inr rfl) hr
      · rw [pg_run hr]
        have HB : Hid (∀ n w1, Calls Try.prog 29 #[.int .i64 n, .int .i64 4] w1 fun e w' => e = .returned (.bool (hs n 4)) ∧ w1 = w') := fun n w1 => gbit_any n 4 w1 (by unfold way3; omega)
        go_enter Try.func22, Try.ntmps22
        go_wp2_with (go_at_call 29; refine (HB.out _ _).mono ?_; rintro e w' ⟨rfl, rfl⟩)
        go_ret
        exact ⟨rfl, hbe.out _ _⟩
    · have hr' : hs r y = false := by simpa using hr
      rw [pg_no (Or.inr hr')]
      have HB : Hid (∀ n w1, Calls Try.prog 29 #[.int .i64 n, .int .i64 y] w1 fun e w' => e = .returned (.bool (hs n y)) ∧ w1 = w') := fun n w1 => gbit_any n y w1 hy
      clear hr
      rcases hy with rfl | rfl | rfl
      all_goals
        go_enter Try.func22, Try.ntmps22
        go_wp2_with (go_at_call 29; refine (HB.out _ _).mono ?_; rintro e w' ⟨rfl, rfl⟩)
        go_ret
        exact ⟨rfl, hbe.out _ _⟩
  · rw [pg_no (Or.inl hy)]
    have h1 : (y != 1) = true := by rw [bne_iff_ne]; exact fun h => hy (Or.inl h)
    have h2 : (y != 2) = true := by rw [bne_iff_ne]; exact fun h => hy (Or.inr (Or.inl h))
    have h4 : (y != 4) = true := by rw [bne_iff_ne]; exact fun h => hy (Or.inr (Or.inr h))
    clear hy
    go_enter Try.func22, Try.ntmps22
    go_wp2
    go_ret
    exact ⟨rfl, hbe.out _ _⟩

set_option maxHeartbeats 800000 in
theorem gtags_any (r k : Int) (T s : Bool) (y : Int) (v : Value) (zs : List Int) (t : Int) (w : World) (h : IsInts w v zs) :
    Calls Try.prog 18 #[.agg #[.int .i64 r, .int .i64 k, .bool T, .bool s], .int .i64 y, v, .int .i64 t] w fun e w' => e = .returned (.tuple #[.int .i64 (tgF T y zs t), .int .i64 (tgK T y zs t)]) ∧ Below w.heap.size w w' := by
  have hbe : Hid (∀ o, Below w.heap.size w (w.alloc o)) := fun o => (Below.refl _ _).alloc (Nat.le_refl _) _
  have hown0 : OwnRow (w.alloc (.cells #[.int .i64 r, .int .i64 k, .bool T, .bool s] 36)) w.heap.size 36 [.int .i64 r, .int .i64 k, .bool T, .bool s] := heap_alloc_new w _
  obtain ⟨a, cap, rfl, hzc, hzl, -, hz'⟩ := h
  obtain ⟨n, hn⟩ : ∃ n, Hid (n = zs.length) := ⟨_, rfl⟩
  rw [← hn.out] at hzc hzl hz' ⊢
  obtain ⟨F, hF⟩ : ∃ F, Hid (F = tgF T y zs t) := ⟨_, rfl⟩
  obtain ⟨K, hK⟩ : ∃ K, Hid (K = tgK T y zs t) := ⟨_, rfl⟩
  rw [← hF.out, ← hK.out]
  go_enter Try.func18, Try.ntmps18
  go_wp2
  go_loopw [10] (fun i wr => ∃ j : Nat, j ≤ n ∧ i = .int .i64 j ∧ Hid (j ≤ fu zs t) ∧ OwnRow wr w.heap.size 36 [.int .i64 r, .int .i64 k, .bool T, .bool s] ∧ Below w.heap.size w wr) (fun i _ => n - (intOf i).toNat)
  case atStart => exact ⟨0, Nat.zero_le _, rfl, Nat.zero_le _, hown0, hbe.out _⟩
  case round =>
    obtain ⟨j, hj, rfl, hju, hown, hbel⟩ := hrel
    have hc2 : wr.cell? ⟨w.heap.size, 2, none⟩ = some (.bool T) := by rw [hown.cell]; rfl
    have hz := hown.lt
    by_cases hlt : j < n
    · obtain ⟨b, off, rfl, hzz⟩ := hz' (by omega)
      have hck := hzz j hlt
      have HP : Hid (zs.getD j 0 = t → j + 1 ≤ fu zs t) := fun h => fu_pass hju.out (by rw [← hn.out]; exact hlt) h
      have HH : Hid (zs.getD j 0 ≠ t → fu zs t = j) := fun h => fu_hit hju.out h
      obtain ⟨o, ho⟩ : ∃ o, o = zs.getD j 0 := ⟨_, rfl⟩
      rw [← ho] at hck HP HH
      have hk0 : wr.cell? ⟨b, off + j, none⟩ = some (.int .i64 o) := (hbel.cell (cell_lt hck)).trans hck
      clear hck ho hzz
      cases T
      · obtain ⟨e1, e2⟩ := tg_no (T := false) (y := y) (zs := zs) (t := t) (by simp [tgH])
        obtain rfl : F = 0 := by rw [hF.out]; exact e1
        obtain rfl : K = 0 := by rw [hK.out]; exact e2
        clear e1 e2 HP HH
        go_wp2
        go_ret2
        exact ⟨rfl, hbel⟩
      by_cases h4 : y = 4
      · obtain ⟨e1, e2⟩ := tg_no (T := true) (y := y) (zs := zs) (t := t) (by simp [tgH, h4])
        obtain rfl : F = 0 := by rw [hF.out]; exact e1
        obtain rfl : K = 0 := by rw [hK.out]; exact e2
        have hy4 : (y != 4) = false := by simp [h4]
        clear e1 e2 HP HH h4
        go_wp2
        go_ret2
        exact ⟨rfl, hbel⟩
      have H4 : Hid (y ≠ 4) := h4
      have hy4 : (y != 4) = true := by simp [h4]
      clear h4
      by_cases ht : o = t
      · have HT : Hid (j + 1 ≤ fu zs t) := HP.out ht
        have hne : (o != t) = false := by simp [ht]
        clear HP HH ht
        go_wp2
        go_roundw
        case rel => exact ⟨j + 1, by omega, by go_num, HT, hown, hbel⟩
        case measure => simp [intOf]; omega
      · have HT : Hid (fu zs t = j) := HH.out ht
        have hne : (o != t) = true := by simp [ht]
        clear HP HH ht
        obtain ⟨e1, e2⟩ := tg_yes (T := true) (y := y) (zs := zs) (t := t) ⟨rfl, H4.out, by rw [HT.out, ← hn.out]; exact hlt⟩
        obtain rfl : F = 4 := by rw [hF.out]; exact e1
        obtain rfl : K = (j : Int) := by rw [hK.out, e2, HT.out]
        clear e1 e2
        go_wp2
        go_ret2
        exact ⟨rfl, hbel⟩
    · have hno : ¬ tgH T y zs t := fun h => by have := h.2.2; have := hju.out; have := hn.out; omega
      obtain ⟨e1, e2⟩ := tg_no hno
      obtain rfl : F = 0 := by rw [hF.out]; exact e1
      obtain rfl : K = 0 := by rw [hK.out]; exact e2
      clear e1 e2 hno
      go_wp2
      go_ret2
      exact ⟨rfl, hbel⟩

end Go.Proofs.Ytkmkjngfoodehad

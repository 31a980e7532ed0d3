/- The contracts of package flat's small functions: isLook, wayOf, isSpan, hasRoom, keep, wrongGuard. -/
import Derived.Test.YtlhmfbkpmfofiaiFlat1
namespace Go.Proofs.Ytlhmfbkpmfofiai
set_option maxRecDepth 100000
open Go.RowKit
set_option linter.unusedSimpArgs false
set_option linter.unusedVariables false

/-- What is done, as one value. -/
abbrev opV (o : O12) : Value := .agg #[.int .i64 o.kind, .int .i64 o.proc, .int .i64 o.page, .int .i64 o.count, .int .i64 o.rights, .int .i64 o.key, .bool o.tagged, .int .i64 o.draw, .int .i64 o.addr, .int .i64 o.size, .int .i64 o.value, .int .i64 o.tag]

theorem below_drewK {B : Nat} {a w : World} (h : Below B a w) (n : Nat) : Below B a (w.drewN n) := ⟨h.os, h.tape, h.output, h.size, h.block⟩

set_option maxHeartbeats 400000 in
theorem isLook_any (k : Int) (w : World) :
    Calls Try.prog 25 #[.int .i64 k] w fun e w' => e = .returned (.bool (isLk k)) ∧ w = w' := by
  go_enter Try.func25, Try.ntmps25
  go_wp2
  all_goals
    go_ret
    refine ⟨ret_bool ?_, rfl⟩
    unfold isLk
    rw [Bool.eq_iff_iff]
    simp_all

set_option maxHeartbeats 400000 in
theorem wayOf_any (k : Int) (w : World) :
    Calls Try.prog 63 #[.int .i64 k] w fun e w' => e = .returned (.int .i64 (wayK k)) ∧ w = w' := by
  have hK : Hid (wayK k = if k = 10 then 1 else if k = 12 then 4 else 2) := rfl
  generalize wayK k = K at *
  by_cases h1 : k = 10
  · obtain rfl : K = 1 := by rw [hK.out, if_pos h1]
    subst h1
    go_enter Try.func63, Try.ntmps63
    go_wp2
    go_ret
    exact ⟨rfl, rfl⟩
  · by_cases h2 : k = 12
    · obtain rfl : K = 4 := by rw [hK.out, if_neg h1, if_pos h2]
      subst h2
      go_enter Try.func63, Try.ntmps63
      go_wp2
      go_ret
      exact ⟨rfl, rfl⟩
    · obtain rfl : K = 2 := by rw [hK.out, if_neg h1, if_neg h2]
      have d1 : (k == 10) = false := by simpa using h1
      have d2 : (k == 12) = false := by simpa using h2
      go_enter Try.func63, Try.ntmps63
      go_wp2
      go_ret
      exact ⟨rfl, rfl⟩

set_option maxHeartbeats 800000 in
theorem isSpan14_any (o : O12) (hw : bdI o.count) (w : World) :
    Calls Try.prog 52 #[opV o] w fun e w' => e = .returned (.bool (isS o)) ∧ Below w.heap.size w w' := by
  have hbe : Hid (∀ o, Below w.heap.size w (w.alloc o)) := fun o => (Below.refl _ _).alloc (Nat.le_refl _) _
  have hS : Hid (isS o = decide (0 ≤ o.page ∧ 1 ≤ o.count ∧ o.page + o.count ≤ 64)) := by
    show _ = _
    rw [Bool.eq_iff_iff, isS_iff, decide_eq_true_eq]
  generalize isS o = F at *
  obtain ⟨kind, proc, page, count, rights, key, tagged, draw, addr, size, value, tag⟩ := o
  simp only at hw hS ⊢
  obtain ⟨hw1, hw2⟩ := hw
  by_cases h0 : 0 ≤ page
  · by_cases h1 : 1 ≤ count
    · have e1 : wrap64 (64 - count) = 64 - count := by unfold wrap64; omega
      by_cases h2 : page ≤ 64 - count
      · obtain rfl : F = true := by rw [hS.out]; simp; omega
        clear hS
        go_enter Try.func52, Try.ntmps52
        go_wp2
        go_ret
        exact ⟨rfl, hbe.out _⟩
      · obtain rfl : F = false := by rw [hS.out]; simp; omega
        clear hS
        go_enter Try.func52, Try.ntmps52
        go_wp2
        go_ret
        exact ⟨rfl, hbe.out _⟩
    · obtain rfl : F = false := by rw [hS.out]; simp; omega
      clear hS
      go_enter Try.func52, Try.ntmps52
      go_wp2
      go_ret
      exact ⟨rfl, hbe.out _⟩
  · obtain rfl : F = false := by rw [hS.out]; simp; omega
    clear hS
    go_enter Try.func52, Try.ntmps52
    go_wp2
    go_ret
    exact ⟨rfl, hbe.out _⟩

/-- The pages of the first k processes. -/
def sumC (S : W4) : Nat → Int
  | 0 => 0
  | k + 1 => sumC S k + cnt (S k).L 0 64

theorem sumC_4 (S : W4) : sumC S 4 = allC S := by simp [sumC, allC]

theorem sumC_bd {S : W4} (h : allC S ≤ 64) : ∀ {k : Nat}, k ≤ 4 → 0 ≤ sumC S k ∧ sumC S k ≤ 64 := by
  intro k hk
  have h0 := cnt_pos (l := (S 0).L)
  have h1 := cnt_pos (l := (S 1).L)
  have h2 := cnt_pos (l := (S 2).L)
  have h3 := cnt_pos (l := (S 3).L)
  unfold allC at h
  match k, hk with
  | 0, _ => simp [sumC]
  | 1, _ => simp [sumC]; omega
  | 2, _ => simp [sumC]; omega
  | 3, _ => simp [sumC]; omega
  | 4, _ => simp [sumC]; omega

set_option maxHeartbeats 1600000 in
theorem hasRoom_any (base g : Nat) (S : W4) (c : Int) (w : World) (h : WOK base g w S) (hi : Inv S) (hc0 : 0 ≤ c) (hc1 : c ≤ 64) :
    Calls Try.prog 48 #[.pointer (some ⟨g, 0, none⟩), .int .i64 c] w fun e w' => e = .returned (.bool (room S c)) ∧ Below w.heap.size w w' := by
  have HW : Hid (WOK base g w S) := h
  have HI : Hid (Inv S) := hi
  have HS : Hid (∀ k, k ≤ 4 → 0 ≤ sumC S k ∧ sumC S k ≤ 64) := fun k hk => sumC_bd hi.2 hk
  have hg := h.glt
  clear h hi
  go_enter Try.func48, Try.ntmps48
  go_wp2_with fail
  go_loopw [1, 6] (fun s i wr => ∃ (k : Nat) (T : Int), k ≤ 4 ∧ s = .int .i64 (c + T) ∧ i = .int .i64 k ∧ Hid (T = sumC S k) ∧ Below w.heap.size w wr) (fun _ i _ => 4 - (intOf i).toNat)
  case atStart => exact ⟨0, 0, Nat.zero_le _, by rw [Int.add_zero], rfl, rfl, Below.refl _ _⟩
  case round =>
    obtain ⟨k, T, hk, rfl, rfl, hT, hbel⟩ := hrel
    have hTb := HS.out k hk
    rw [← hT.out] at hTb
    by_cases hlt : k < 4
    · have hTn := HS.out (k + 1) hlt
      rw [sumC, ← hT.out] at hTn
      obtain ⟨a, cap, h1, h2, -⟩ := (HW.out.below hbel).recs HI.out hlt
      have HC : Hid (∀ v, v = _ → Calls Try.prog 16 #[v] wr fun e w' => e = .returned (.int .i64 (cnt (S k).L 0 64)) ∧ Below wr.heap.size wr w') := fun v hv => hv ▸ countAll_any _ _ 64 wr h2 (by decide)
      have HN : Hid (T + cnt (S k).L 0 64 = sumC S (k + 1)) := by show _ = _; rw [sumC, ← hT.out]
      generalize (S k).L.length = n at *
      generalize cnt (S k).L 0 64 = C at *
      clear h2 hT
      go_wp2_with (go_at_call 16; refine (HC.out _ rfl).mono ?_; rintro e w1 ⟨rfl, hw1⟩)
      go_roundw
      case rel => exact ⟨k + 1, T + C, by omega, by go_num, by go_num, HN.out, hbel.trans (hw1.mono hbel.size)⟩
      case measure => simp [intOf]; omega
    · obtain rfl : k = 4 := by omega
      go_wp2
      go_ret
      refine ⟨ret_bool ?_, hbel⟩
      have := hT.out
      rw [sumC_4] at this
      unfold room
      rw [← this, Int.add_comm]

set_option maxHeartbeats 400000 in
theorem keep_any (base g : Nat) (S : W4) (k : Nat) (hk : k < 4) (v : Value) (l : List R6) (e : Int) (w : World) (h : WOK base g w S) (ho : OwnR 46 6 encR base w v l) :
    Calls Try.prog 50 #[.pointer (some ⟨g, k * 4362, none⟩), v, .int .i64 e] w fun r w' => r = .returned (.int .i64 e) ∧ WOK base g w' (if e = 0 then upd S k { S k with L := l } else S) ∧ Spare g w w' := by
  obtain ⟨a, cap, hc, -⟩ := h.regs hk
  have hf := h.free (k * 4362 + 1)
  have HS := h.setRegs hk ho
  have HW : Hid (WOK base g w S) := h
  obtain ⟨a', cap', rfl⟩ := ho.form
  have HH : Hid _ := HS
  generalize (S k).L.length = n at *
  generalize l.length = m at *
  clear HS ho h
  by_cases he : e = 0
  · subst he
    rw [if_pos rfl]
    go_enter Try.func50, Try.ntmps50
    go_wp2
    go_ret
    exact ⟨rfl, HH.out, (Spare.refl _ _).set _ _⟩
  · rw [if_neg he]
    have hd : (e == 0) = false := by simpa using he
    go_enter Try.func50, Try.ntmps50
    go_wp2
    go_ret
    exact ⟨rfl, HW.out, Spare.refl _ _⟩

set_option maxHeartbeats 1600000 in
theorem wrongGuard_any (base g : Nat) (S : W4) (k : Nat) (hk : k < 4) (o : O12) (w : World) (h : WOK base g w S) :
    Calls Try.prog 47 #[.pointer (some ⟨g, k * 4362, none⟩), opV o] w fun e w' => e = .returned (.int .i64 (wgE (S k) o)) ∧ Below w.heap.size w w' := by
  have hbe : Hid (∀ o, Below w.heap.size w (w.alloc o)) := fun o => (Below.refl _ _).alloc (Nat.le_refl _) _
  have hE : Hid (wgE (S k) o = if wrg o.rights = 0 then if tk (S k).K o.key then 0 else 3 else wrg o.rights) := rfl
  obtain ⟨⟨c0, c1, c2, c3⟩, c4, c5, c6, c7⟩ := h.keys hk
  have hg := h.glt
  clear h
  generalize wgE (S k) o = E at *
  generalize (S k).K = K at *
  obtain ⟨t0, d0, t1, d1, t2, d2, t3, d3⟩ := K
  obtain ⟨kind, proc, page, count, rights, key, tagged, draw, addr, size, value, tag⟩ := o
  simp only at hE c0 c1 c2 c3 c4 c5 c6 c7 ⊢
  have HW : Hid (∀ w1, Calls Try.prog 66 #[.int .i64 rights] w1 fun e w' => e = .returned (.int .i64 (wrg rights)) ∧ w1 = w') := fun w1 => wrong_any rights w1
  generalize wrg rights = R at *
  by_cases hr : R = 0
  · subst hr
    by_cases h0 : key < 0
    · obtain rfl : E = 3 := by rw [hE.out, if_pos rfl, tk_out (Or.inl h0)]; rfl
      clear hE
      have q0 : decide (key < 0) = true := by simpa using h0
      go_enter Try.func47, Try.ntmps47
      go_wp2_with (go_at_call 66; refine (HW.out _).mono ?_; rintro e w' ⟨rfl, rfl⟩)
      go_quiet (fail)
      go_wp2
      go_ret
      exact ⟨rfl, below_drewK (hbe.out _) _⟩
    by_cases h3 : 3 < key
    · obtain rfl : E = 3 := by rw [hE.out, if_pos rfl, tk_out (Or.inr h3)]; rfl
      clear hE
      have q0 : decide (key < 0) = false := by simp; omega
      have q1 : decide (key ≥ 4) = true := by simp; omega
      go_enter Try.func47, Try.ntmps47
      go_wp2_with (go_at_call 66; refine (HW.out _).mono ?_; rintro e w' ⟨rfl, rfl⟩)
      go_quiet (fail)
      go_wp2
      go_ret
      exact ⟨rfl, below_drewK (hbe.out _) _⟩
    have hkk : key = 0 ∨ key = 1 ∨ key = 2 ∨ key = 3 := by omega
    clear h0 h3
    rcases hkk with rfl | rfl | rfl | rfl
    · cases t0
      all_goals
        have hE2 := hE.out
        simp [tk] at hE2
        subst hE2
        clear hE
        go_enter Try.func47, Try.ntmps47
        go_wp2_with (go_at_call 66; refine (HW.out _).mono ?_; rintro e w' ⟨rfl, rfl⟩)
        go_quiet (fail)
        go_wp2
        go_ret
        exact ⟨rfl, below_drewK (hbe.out _) _⟩
    · cases t1
      all_goals
        have hE2 := hE.out
        simp [tk] at hE2
        subst hE2
        clear hE
        go_enter Try.func47, Try.ntmps47
        go_wp2_with (go_at_call 66; refine (HW.out _).mono ?_; rintro e w' ⟨rfl, rfl⟩)
        go_quiet (fail)
        go_wp2
        go_ret
        exact ⟨rfl, below_drewK (hbe.out _) _⟩
    · cases t2
      all_goals
        have hE2 := hE.out
        simp [tk] at hE2
        subst hE2
        clear hE
        go_enter Try.func47, Try.ntmps47
        go_wp2_with (go_at_call 66; refine (HW.out _).mono ?_; rintro e w' ⟨rfl, rfl⟩)
        go_quiet (fail)
        go_wp2
        go_ret
        exact ⟨rfl, below_drewK (hbe.out _) _⟩
    · cases t3
      all_goals
        have hE2 := hE.out
        simp [tk] at hE2
        subst hE2
        clear hE
        go_enter Try.func47, Try.ntmps47
        go_wp2_with (go_at_call 66; refine (HW.out _).mono ?_; rintro e w' ⟨rfl, rfl⟩)
        go_quiet (fail)
        go_wp2
        go_ret
        exact ⟨rfl, below_drewK (hbe.out _) _⟩
  · obtain rfl : E = R := by rw [hE.out, if_neg hr]
    have hd : (E != 0) = true := by simpa using hr
    clear hE
    go_enter Try.func47, Try.ntmps47
    go_wp2_with (go_at_call 66; refine (HW.out _).mono ?_; rintro e w' ⟨rfl, rfl⟩)
    go_ret
    exact ⟨rfl, hbe.out _⟩

end Go.Proofs.Ytlhmfbkpmfofiai

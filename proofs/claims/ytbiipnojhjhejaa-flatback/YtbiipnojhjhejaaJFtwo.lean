/- The contracts of package flat's small functions: isLook, wayOf, isSpan, hasRoom, keep, wrongGuard. -/
import Derived.Test.YtbiipnojhjhejaaJFmem
import Derived.Deep.RegionHeld3
import Derived.Test.YtbiipnojhjhejaaPlace1
namespace Go.Proofs.Ytbiipnojhjhejaa
set_option maxRecDepth 100000
open Go.RowKit
set_option linter.unusedSimpArgs false
set_option linter.unusedVariables false

/-- What is done, as one value. -/
abbrev opV (o : O12) : Value := .agg #[.int .i64 o.kind, .int .i64 o.proc, .int .i64 o.page, .int .i64 o.count, .int .i64 o.rights, .int .i64 o.key, .bool o.tagged, .int .i64 o.draw, .int .i64 o.addr, .int .i64 o.size, .int .i64 o.value, .int .i64 o.tag]

theorem below_drewK {B : Nat} {a w : World} (h : Below B a w) (n : Nat) : Below B a (w.drewN n) := ⟨h.os, h.tape, h.output, h.size, h.block⟩

set_option maxHeartbeats 400000 in
theorem isLook_any (k : Int) (w : World) :
    Calls Try.prog 36 #[.int .i64 k] w fun e w' => e = .returned (.bool (isLk k)) ∧ w = w' := by
  go_enter Try.func36, Try.ntmps36
  go_wp2
  all_goals
    go_ret
    refine ⟨ret_bool ?_, rfl⟩
    unfold isLk
    rw [Bool.eq_iff_iff]
    simp_all

set_option maxHeartbeats 400000 in
theorem wayOf_any (k : Int) (w : World) :
    Calls Try.prog 73 #[.int .i64 k] w fun e w' => e = .returned (.int .i64 (wayK k)) ∧ w = w' := by
  have hK : Hid (wayK k = if k = 10 then 1 else if k = 12 then 4 else 2) := rfl
  generalize wayK k = K at *
  by_cases h1 : k = 10
  · obtain rfl : K = 1 := by rw [hK.out, if_pos h1]
    subst h1
    go_enter Try.func73, Try.ntmps73
    go_wp2
    go_ret
    exact ⟨rfl, rfl⟩
  · by_cases h2 : k = 12
    · obtain rfl : K = 4 := by rw [hK.out, if_neg h1, if_pos h2]
      subst h2
      go_enter Try.func73, Try.ntmps73
      go_wp2
      go_ret
      exact ⟨rfl, rfl⟩
    · obtain rfl : K = 2 := by rw [hK.out, if_neg h1, if_neg h2]
      have d1 : (k == 10) = false := by simpa using h1
      have d2 : (k == 12) = false := by simpa using h2
      go_enter Try.func73, Try.ntmps73
      go_wp2
      go_ret
      exact ⟨rfl, rfl⟩

set_option maxHeartbeats 800000 in
theorem isSpan14_any (o : O12) (hw : bdI o.count) (w : World) :
    Calls Try.prog 61 #[opV o] w fun e w' => e = .returned (.bool (isS o)) ∧ Below w.heap.size w w' := by
  have hbe : Hid (∀ o, Below w.heap.size w (w.alloc o)) := fun o => (Below.refl _ _).alloc (Nat.le_refl _) _
  have hS : Hid (isS o = decide (0 ≤ o.page ∧ 1 ≤ o.count ∧ o.page + o.count ≤ 64)) := by
    show _ = _
    rw [Bool.eq_iff_iff, isS_iff, decide_eq_true_eq]
  generalize isS o = F at *
  obtain ⟨kind, proc, page, count, rights, key, tagged, draw, addr, size, value, tag⟩ := o
  simp only at hw hS ⊢
  obtain ⟨hw1, hw2⟩ := hw
  by_cases h0 : 0 ≤ page
  · by_cases h1 : 1 ≤ count
    · have e1 : wrap64 (64 - count) = 64 - count := by unfold wrap64; omega
      by_cases h2 : page ≤ 64 - count
      · obtain rfl : F = true := by rw [hS.out]; simp; omega
        clear hS
        go_enter Try.func61, Try.ntmps61
        go_wp2
        go_ret
        exact ⟨rfl, hbe.out _⟩
      · obtain rfl : F = false := by rw [hS.out]; simp; omega
        clear hS
        go_enter Try.func61, Try.ntmps61
        go_wp2
        go_ret
        exact ⟨rfl, hbe.out _⟩
    · obtain rfl : F = false := by rw [hS.out]; simp; omega
      clear hS
      go_enter Try.func61, Try.ntmps61
      go_wp2
      go_ret
      exact ⟨rfl, hbe.out _⟩
  · obtain rfl : F = false := by rw [hS.out]; simp; omega
    clear hS
    go_enter Try.func61, Try.ntmps61
    go_wp2
    go_ret
    exact ⟨rfl, hbe.out _⟩

/-- The pages of the first k processes. -/
def sumC (S : W4) : Nat → Int
  | 0 => 0
  | k + 1 => sumC S k + cnt (S k).L 0 64

theorem sumC_4 (S : W4) : sumC S 4 = allC S := by simp [sumC, allC]

theorem sumC_bd {S : W4} (h : allC S ≤ 64) : ∀ {k : Nat}, k ≤ 4 → 0 ≤ sumC S k ∧ sumC S k ≤ 64 := by
  intro k hk
  have h0 := cnt_pos (l := (S 0).L)
  have h1 := cnt_pos (l := (S 1).L)
  have h2 := cnt_pos (l := (S 2).L)
  have h3 := cnt_pos (l := (S 3).L)
  unfold allC at h
  match k, hk with
  | 0, _ => simp [sumC]
  | 1, _ => simp [sumC]; omega
  | 2, _ => simp [sumC]; omega
  | 3, _ => simp [sumC]; omega
  | 4, _ => simp [sumC]; omega

set_option maxHeartbeats 1600000 in
theorem hasRoom_any (mv : Value) (base g : Nat) (S : W4) (c : Int) (w : World) (h : WOK mv base g w S) (hi : Inv S) (hc0 : 0 ≤ c) (hc1 : c ≤ 64) :
    Calls Try.prog 57 #[.pointer (some ⟨g, 0, none⟩), .int .i64 c] w fun e w' => e = .returned (.bool (room S c)) ∧ Below w.heap.size w w' := by
  have HW : Hid (WOK mv base g w S) := h
  have HI : Hid (Inv S) := hi
  have HS : Hid (∀ k, k ≤ 4 → 0 ≤ sumC S k ∧ sumC S k ≤ 64) := fun k hk => sumC_bd hi.2 hk
  have hg := h.glt
  clear h hi
  go_enter Try.func57, Try.ntmps57
  go_wp2_with fail
  go_loopw [1, 6] (fun s i wr => ∃ (k : Nat) (T : Int), k ≤ 4 ∧ s = .int .i64 (c + T) ∧ i = .int .i64 k ∧ Hid (T = sumC S k) ∧ Below w.heap.size w wr) (fun _ i _ => 4 - (intOf i).toNat)
  case atStart => exact ⟨0, 0, Nat.zero_le _, by rw [Int.add_zero], rfl, rfl, Below.refl _ _⟩
  case round =>
    obtain ⟨k, T, hk, rfl, rfl, hT, hbel⟩ := hrel
    have hTb := HS.out k hk
    rw [← hT.out] at hTb
    by_cases hlt : k < 4
    · have hTn := HS.out (k + 1) hlt
      rw [sumC, ← hT.out] at hTn
      obtain ⟨a, cap, h1, h2, -⟩ := (HW.out.below hbel).recs HI.out hlt
      have HC : Hid (∀ v, v = _ → Calls Try.prog 20 #[v] wr fun e w' => e = .returned (.int .i64 (cnt (S k).L 0 64)) ∧ Below wr.heap.size wr w') := fun v hv => hv ▸ countAll_any _ _ 64 wr h2 (by decide)
      have HN : Hid (T + cnt (S k).L 0 64 = sumC S (k + 1)) := by show _ = _; rw [sumC, ← hT.out]
      generalize (S k).L.length = n at *
      generalize cnt (S k).L 0 64 = C at *
      clear h2 hT
      go_wp2_with (go_at_call 20; refine (HC.out _ rfl).mono ?_; rintro e w1 ⟨rfl, hw1⟩)
      go_roundw
      case rel => exact ⟨k + 1, T + C, by omega, by go_num, by go_num, HN.out, hbel.trans (hw1.mono hbel.size)⟩
      case measure => simp [intOf]; omega
    · obtain rfl : k = 4 := by omega
      go_wp2
      go_ret
      refine ⟨ret_bool ?_, hbel⟩
      have := hT.out
      rw [sumC_4] at this
      unfold room
      rw [← this, Int.add_comm]

set_option maxHeartbeats 400000 in
theorem keep_any (mv : Value) (base g : Nat) (S : W4) (k : Nat) (hk : k < 4) (v : Value) (l : List R6) (e : Int) (w : World) (h : WOK mv base g w S) (ho : OwnR 50 6 encR base w v l) :
    Calls Try.prog 59 #[.pointer (some ⟨g, k * 10, none⟩), v, .int .i64 e] w fun r w' => r = .returned (.int .i64 e) ∧ WOK mv base g w' (if e = 0 then upd S k { S k with L := l } else S) ∧ Spare g w w' := by
  obtain ⟨a, cap, hc, -⟩ := h.regs hk
  have hf := h.free (k * 10 + 1)
  have HS := h.setRegs hk ho
  have HW : Hid (WOK mv base g w S) := h
  obtain ⟨a', cap', rfl⟩ := ho.form
  have HH : Hid _ := HS
  generalize (S k).L.length = n at *
  generalize l.length = m at *
  clear HS ho h
  by_cases he : e = 0
  · subst he
    rw [if_pos rfl]
    go_enter Try.func59, Try.ntmps59
    go_wp2
    go_ret
    exact ⟨rfl, HH.out, (Spare.refl _ _).set _ _⟩
  · rw [if_neg he]
    have hd : (e == 0) = false := by simpa using he
    go_enter Try.func59, Try.ntmps59
    go_wp2
    go_ret
    exact ⟨rfl, HW.out, Spare.refl _ _⟩

set_option maxHeartbeats 1600000 in
theorem wrongGuard_any (mv : Value) (base g : Nat) (S : W4) (k : Nat) (hk : k < 4) (o : O12) (w : World) (h : WOK mv base g w S) :
    Calls Try.prog 56 #[.pointer (some ⟨g, k * 10, none⟩), opV o] w fun e w' => e = .returned (.int .i64 (wgE (S k) o)) ∧ Below w.heap.size w w' := by
  have hbe : Hid (∀ o, Below w.heap.size w (w.alloc o)) := fun o => (Below.refl _ _).alloc (Nat.le_refl _) _
  have hE : Hid (wgE (S k) o = if wrg o.rights = 0 then if tk (S k).K o.key then 0 else 3 else wrg o.rights) := rfl
  obtain ⟨⟨c0, c1, c2, c3⟩, c4, c5, c6, c7⟩ := h.keys hk
  have hg := h.glt
  clear h
  generalize wgE (S k) o = E at *
  generalize (S k).K = K at *
  obtain ⟨t0, d0, t1, d1, t2, d2, t3, d3⟩ := K
  obtain ⟨kind, proc, page, count, rights, key, tagged, draw, addr, size, value, tag⟩ := o
  simp only at hE c0 c1 c2 c3 c4 c5 c6 c7 ⊢
  have HW : Hid (∀ w1, Calls Try.prog 76 #[.int .i64 rights] w1 fun e w' => e = .returned (.int .i64 (wrg rights)) ∧ w1 = w') := fun w1 => wrong_any rights w1
  generalize wrg rights = R at *
  by_cases hr : R = 0
  · subst hr
    by_cases h0 : key < 0
    · obtain rfl : E = 3 := by rw [hE.out, if_pos rfl, tk_out (Or.inl h0)]; rfl
      clear hE
      have q0 : decide (key < 0) = true := by simpa using h0
      go_enter Try.func56, Try.ntmps56
      go_wp2_with (go_at_call 76; refine (HW.out _).mono ?_; rintro e w' ⟨rfl, rfl⟩)
      go_quiet (fail)
      go_wp2
      go_ret
      exact ⟨rfl, below_drewK (hbe.out _) _⟩
    by_cases h3 : 3 < key
    · obtain rfl : E = 3 := by rw [hE.out, if_pos rfl, tk_out (Or.inr h3)]; rfl
      clear hE
      have q0 : decide (key < 0) = false := by simp; omega
      have q1 : decide (key ≥ 4) = true := by simp; omega
      go_enter Try.func56, Try.ntmps56
      go_wp2_with (go_at_call 76; refine (HW.out _).mono ?_; rintro e w' ⟨rfl, rfl⟩)
      go_quiet (fail)
      go_wp2
      go_ret
      exact ⟨rfl, below_drewK (hbe.out _) _⟩
    have hkk : key = 0 ∨ key = 1 ∨ key = 2 ∨ key = 3 := by omega
    clear h0 h3
    rcases hkk with rfl | rfl | rfl | rfl
    · cases t0
      all_goals
        have hE2 := hE.out
        simp [tk] at hE2
        subst hE2
        clear hE
        go_enter Try.func56, Try.ntmps56
        go_wp2_with (go_at_call 76; refine (HW.out _).mono ?_; rintro e w' ⟨rfl, rfl⟩)
        go_quiet (fail)
        go_wp2
        go_ret
        exact ⟨rfl, below_drewK (hbe.out _) _⟩
    · cases t1
      all_goals
        have hE2 := hE.out
        simp [tk] at hE2
        subst hE2
        clear hE
        go_enter Try.func56, Try.ntmps56
        go_wp2_with (go_at_call 76; refine (HW.out _).mono ?_; rintro e w' ⟨rfl, rfl⟩)
        go_quiet (fail)
        go_wp2
        go_ret
        exact ⟨rfl, below_drewK (hbe.out _) _⟩
    · cases t2
      all_goals
        have hE2 := hE.out
        simp [tk] at hE2
        subst hE2
        clear hE
        go_enter Try.func56, Try.ntmps56
        go_wp2_with (go_at_call 76; refine (HW.out _).mono ?_; rintro e w' ⟨rfl, rfl⟩)
        go_quiet (fail)
        go_wp2
        go_ret
        exact ⟨rfl, below_drewK (hbe.out _) _⟩
    · cases t3
      all_goals
        have hE2 := hE.out
        simp [tk] at hE2
        subst hE2
        clear hE
        go_enter Try.func56, Try.ntmps56
        go_wp2_with (go_at_call 76; refine (HW.out _).mono ?_; rintro e w' ⟨rfl, rfl⟩)
        go_quiet (fail)
        go_wp2
        go_ret
        exact ⟨rfl, below_drewK (hbe.out _) _⟩
  · obtain rfl : E = R := by rw [hE.out, if_neg hr]
    have hd : (E != 0) = true := by simpa using hr
    clear hE
    go_enter Try.func56, Try.ntmps56
    go_wp2_with (go_at_call 76; refine (HW.out _).mono ?_; rintro e w' ⟨rfl, rfl⟩)
    go_ret
    exact ⟨rfl, hbe.out _⟩

end Go.Proofs.Ytbiipnojhjhejaa

/- The contracts of flat.process.isThere and isSealed: whether pages are all there, whether one of them is sealed. -/
namespace Go.Proofs.Ytbiipnojhjhejaa
set_option maxRecDepth 100000
open Go.RowKit
set_option linter.unusedSimpArgs false
set_option linter.unusedVariables false

theorem nx2b {wr b : World} {A B : Addr} {u v : Value} (h1 : wr.cell? A = some u) (h2 : wr.cell? B = some v) (h : Below wr.heap.size wr b) : b.cell? A = some u ∧ b.cell? B = some v ∧ Below wr.heap.size wr b :=
  ⟨(h.cell (cell_lt h1)).trans h1, (h.cell (cell_lt h2)).trans h2, h⟩

/-- A box that was laid, then an order drawn, then more. -/
theorem own_drew {w w1 : World} {e : TypeId} {xs : List Value} (hb : Below (w.alloc (.cells xs.toArray e)).drew.heap.size (w.alloc (.cells xs.toArray e)).drew w1) : OwnRow w1 w.heap.size e xs := by
  have h1 : OwnRow (w.alloc (.cells xs.toArray e)).drew w.heap.size e xs := heap_alloc_new w _
  exact h1.below hb h1.lt

theorem thr_iff {p : Pr} {o : O12} {n : Nat} (hn : o.count = n) : thr p o = true ↔ ∀ i, i < n → (atR p.L (o.page + (i : Int))).isSome = true := by
  unfold thr
  rw [hn, Int.toNat_natCast, List.all_eq_true]
  constructor
  · intro h i hi; exact h i (List.mem_range.2 hi)
  · intro h i hi; exact h i (List.mem_range.1 hi)

theorem sld_iff {p : Pr} {o : O12} {n : Nat} (hn : o.count = n) : sld p o = false ↔ ∀ i, i < n → ((atR p.L (o.page + (i : Int))).getD zA).2.2.2 = false := by
  unfold sld
  rw [hn, Int.toNat_natCast, List.any_eq_false]
  constructor
  · intro h i hi; simpa using h i (List.mem_range.2 hi)
  · intro h i hi; simpa using h i (List.mem_range.1 hi)

set_option maxHeartbeats 1600000 in
theorem isThere_any (mv : Value) (base g : Nat) (S : W4) (k : Nat) (hk : k < 4) (o : O12) (hs : isS o = true) (w : World) (h : WOK mv base g w S) (hi : Inv S) :
    Calls Try.prog 64 #[.pointer (some ⟨g, k * 10, none⟩), opV o] w fun e w' => e = .returned (.bool (thr (S k) o)) ∧ Below w.heap.size w w' := by
  obtain ⟨q0, q1, q2⟩ := isS_iff.1 hs
  obtain ⟨n, hn⟩ : ∃ n : Nat, o.count = n := ⟨o.count.toNat, by omega⟩
  have HT : Hid (thr (S k) o = true ↔ ∀ i, i < n → (atR (S k).L (o.page + (i : Int))).isSome = true) := thr_iff hn
  obtain ⟨a, cap, h1, h2, -⟩ := h.recs hi hk
  have HF : Hid (∀ w1 v p, v = .slice a (S k).L.length cap → Below w.heap.size w w1 → Calls Try.prog 18 #[v, .int .i64 p] w1 fun e w' => e = .returned (attO (atR (S k).L p)) ∧ Below w1.heap.size w1 w') := fun w1 v p hv hb => hv ▸ find_any _ _ p 64 w1 (h2.below hb) (by decide)
  have hg := h.glt
  generalize thr (S k) o = F at *
  clear h h2 hs
  generalize (S k).L = L at *
  generalize L.length = m at *
  obtain ⟨kind, proc, page, count, rights, key, tagged, draw, addr, size, value, tag⟩ := o
  simp only at q0 q1 q2 hn HT ⊢
  subst hn
  have hbA : Below w.heap.size w (w.alloc (.cells #[.int .i64 kind, .int .i64 proc, .int .i64 page, .int .i64 (n : Int), .int .i64 rights, .int .i64 key, .bool tagged, .int .i64 draw, .int .i64 addr, .int .i64 size, .int .i64 value, .int .i64 tag] 24)) := (Below.refl _ _).alloc (Nat.le_refl _) _
  have HC : Hid (∀ w1, Below (w.alloc (.cells #[.int .i64 kind, .int .i64 proc, .int .i64 page, .int .i64 (n : Int), .int .i64 rights, .int .i64 key, .bool tagged, .int .i64 draw, .int .i64 addr, .int .i64 size, .int .i64 value, .int .i64 tag] 24)).heap.size (w.alloc (.cells #[.int .i64 kind, .int .i64 proc, .int .i64 page, .int .i64 (n : Int), .int .i64 rights, .int .i64 key, .bool tagged, .int .i64 draw, .int .i64 addr, .int .i64 size, .int .i64 value, .int .i64 tag] 24)) w1 → w1.cell? ⟨w.heap.size, 2, none⟩ = some (.int .i64 page) ∧ w1.cell? ⟨g, k * 10 + 1, none⟩ = some (.slice a m cap) ∧ Below w.heap.size w w1 ∧ w.heap.size < w1.heap.size) := fun w1 hb => by
    have ho := own_one (w := w) (xs := [.int .i64 kind, .int .i64 proc, .int .i64 page, .int .i64 (n : Int), .int .i64 rights, .int .i64 key, .bool tagged, .int .i64 draw, .int .i64 addr, .int .i64 size, .int .i64 value, .int .i64 tag]) (e := 24) hb
    have hb2 := hbA.trans (hb.mono hbA.size)
    exact ⟨by rw [ho.cell]; rfl, (hb2.cell (cell_lt h1)).trans h1, hb2, ho.lt⟩
  clear hbA
  go_enter Try.func64, Try.ntmps64
  go_wp2_with fail
  go_loopw [10] (fun i wr => ∃ j : Nat, j ≤ n ∧ i = .int .i64 j ∧ Hid (∀ i, i < j → (atR L (page + (i : Int))).isSome = true) ∧ Below (w.alloc (.cells #[.int .i64 kind, .int .i64 proc, .int .i64 page, .int .i64 (n : Int), .int .i64 rights, .int .i64 key, .bool tagged, .int .i64 draw, .int .i64 addr, .int .i64 size, .int .i64 value, .int .i64 tag] 24)).heap.size (w.alloc (.cells #[.int .i64 kind, .int .i64 proc, .int .i64 page, .int .i64 (n : Int), .int .i64 rights, .int .i64 key, .bool tagged, .int .i64 draw, .int .i64 addr, .int .i64 size, .int .i64 value, .int .i64 tag] 24)) wr) (fun i _ => n - (intOf i).toNat)
  case atStart => exact ⟨0, Nat.zero_le _, rfl, (fun i hi => absurd hi (Nat.not_lt_zero i)), Below.refl _ _⟩
  case round =>
    obtain ⟨j, hj, rfl, hok, hbel⟩ := hrel
    obtain ⟨hc1, hc2, hbw, hlt1⟩ := HC.out _ hbel
    by_cases hlt : j < n
    · have e1 : IntKind.i64.wrap (page + (j : Int)) = page + j := by rw [IntKind.wrap_i64]; omega
      obtain ⟨wo, rfl⟩ : ∃ wo, wo = wr := ⟨_, rfl⟩
      have HF2 : Hid (∀ w1, Below wo.heap.size wo w1 → Calls Try.prog 18 #[.slice a m cap, .int .i64 (IntKind.i64.wrap (page + (j : Int)))] w1 fun e w' => e = .returned (attO (atR L (page + j))) ∧ Below wo.heap.size wo w' ∧ Below w1.heap.size w1 w') := fun w1 hb => by
        rw [e1]
        refine (HF.out w1 _ _ rfl (hbw.trans (hb.mono hbw.size))).mono ?_
        rintro e w2 ⟨he, hb2⟩
        exact ⟨he, hb.trans (hb2.mono hb.size), hb2⟩
      have HY : Hid ((atR L (page + (j : Int))).isSome = true → ∀ i, i < j + 1 → (atR L (page + (i : Int))).isSome = true) := fun hz i hi => by
        by_cases he : i = j
        · rw [he]; exact hz
        · exact hok.out i (by omega)
      have HZ : Hid (¬ (atR L (page + (j : Int))).isSome = true → F = false) := fun hz => by
        cases hF : F with
        | true => exact absurd (HT.out.1 hF j hlt) hz
        | false => rfl
      have HB : Hid (∀ w', Below wo.heap.size wo w' → Below (w.alloc (.cells #[.int .i64 kind, .int .i64 proc, .int .i64 page, .int .i64 (n : Int), .int .i64 rights, .int .i64 key, .bool tagged, .int .i64 draw, .int .i64 addr, .int .i64 size, .int .i64 value, .int .i64 tag] 24)).heap.size (w.alloc (.cells #[.int .i64 kind, .int .i64 proc, .int .i64 page, .int .i64 (n : Int), .int .i64 rights, .int .i64 key, .bool tagged, .int .i64 draw, .int .i64 addr, .int .i64 size, .int .i64 value, .int .i64 tag] 24)) w' ∧ Below w.heap.size w w') := fun w' hb => ⟨hbel.trans (hb.mono hbel.size), hbw.trans (hb.mono hbw.size)⟩
      obtain ⟨A, hA⟩ : ∃ A, A = atR L (page + j) := ⟨_, rfl⟩
      rw [← hA] at HF2 HY HZ
      clear hA hok HF HT HC e1
      go_wp2_with fail
      obtain ⟨r, y, t, s, z, hAV, HX⟩ : ∃ r y t s z, attO A = attV r y t s z ∧ Hid ((z = true → ∀ i, i < j + 1 → (atR L (page + (i : Int))).isSome = true) ∧ (z = false → F = false)) := ⟨_, _, _, _, _, rfl, fun hz => HY.out hz, fun hz => HZ.out (by rw [hz]; decide)⟩
      rw [hAV] at HF2
      clear hAV HY HZ
      obtain ⟨P, hP⟩ : ∃ P : Prop, P = ∀ i, i < j + 1 → (atR L (page + (i : Int))).isSome = true := ⟨_, rfl⟩
      rw [← hP] at HX
      have HP : Hid _ := hP
      clear hP
      cases z
      all_goals
        first | (have HQ : Hid P := HX.out.1 rfl) | (have HQ : Hid (F = false) := HX.out.2 rfl)
        clear HX
        go_region_held3 (fun w' => w'.cell? ⟨w.heap.size, 2, none⟩ = some (.int .i64 page) ∧ w'.cell? ⟨g, k * 10 + 1, none⟩ = some (.slice a m cap) ∧ Below wo.heap.size wo w') (first | exact nx2b hc1 hc2 ((Below.refl _ _).drew) | exact nx2b hc1 hc2 hbw2 | exact nx2b hc1 hc2 (((Below.refl _ _).drew).alloc (Nat.le_refl _) _) | exact nx2b hc1 hc2 (hbw2.alloc hbw2.size _) | exact nx2b hc1 hc2 ((((hbw2.setCell (Nat.le_refl _) _).setCell (Nat.le_refl _) _).setCell (Nat.le_refl _) _).setCell (Nat.le_refl _) _)) (first | (go_at_call 18; refine (HF2.out _ (by first | exact (Below.refl _ _).drew | exact ((Below.refl _ _).drew).alloc (Nat.le_refl _) _)).mono ?_; rintro e w2 ⟨rfl, hbw2, hw2⟩; (try have hX : OwnRow w2 wo.heap.size 48 [.int .i64 0, .int .i64 0, .bool false, .bool false] := own_drew hw2); (try obtain ⟨⟨x0, x1, x2, x3⟩, y0, y1, y2, y3⟩ := hX.quadf); (try have hXL := hX.lt); (try clear hX)))
        all_goals obtain ⟨-, -, hH⟩ := (show _ ∧ _ ∧ Below wo.heap.size wo _ by assumption)
        all_goals go_wp2
        all_goals first
          | (go_ret; exact ⟨ret_bool HQ.out.symm, (HB.out _ hH).2⟩)
          | (go_roundw; case rel => exact ⟨j + 1, by omega, by go_num, (by have := HQ.out; rw [HP.out] at this; exact this), (HB.out _ hH).1⟩; case measure => simp [intOf]; omega)
          | exact ⟨⟨j + 1, by omega, by go_num, (by have := HQ.out; rw [HP.out] at this; exact this), (HB.out _ hH).1⟩, by simp [intOf]; omega⟩
    · obtain rfl : j = n := by omega
      have HQ : Hid (F = true) := HT.out.2 hok.out
      go_wp2
      go_ret
      exact ⟨ret_bool HQ.out.symm, hbw⟩

set_option maxHeartbeats 1600000 in
theorem isSealed_any (mv : Value) (base g : Nat) (S : W4) (k : Nat) (hk : k < 4) (o : O12) (hs : isS o = true) (w : World) (h : WOK mv base g w S) (hi : Inv S) :
    Calls Try.prog 62 #[.pointer (some ⟨g, k * 10, none⟩), opV o] w fun e w' => e = .returned (.bool (sld (S k) o)) ∧ Below w.heap.size w w' := by
  obtain ⟨q0, q1, q2⟩ := isS_iff.1 hs
  obtain ⟨n, hn⟩ : ∃ n : Nat, o.count = n := ⟨o.count.toNat, by omega⟩
  have HT : Hid (sld (S k) o = false ↔ ∀ i, i < n → ((atR (S k).L (o.page + (i : Int))).getD zA).2.2.2 = false) := sld_iff hn
  obtain ⟨a, cap, h1, h2, -⟩ := h.recs hi hk
  have HF : Hid (∀ w1 v p, v = .slice a (S k).L.length cap → Below w.heap.size w w1 → Calls Try.prog 18 #[v, .int .i64 p] w1 fun e w' => e = .returned (attO (atR (S k).L p)) ∧ Below w1.heap.size w1 w') := fun w1 v p hv hb => hv ▸ find_any _ _ p 64 w1 (h2.below hb) (by decide)
  have hg := h.glt
  generalize sld (S k) o = F at *
  clear h h2 hs
  generalize (S k).L = L at *
  generalize L.length = m at *
  obtain ⟨kind, proc, page, count, rights, key, tagged, draw, addr, size, value, tag⟩ := o
  simp only at q0 q1 q2 hn HT ⊢
  subst hn
  have hbA : Below w.heap.size w (w.alloc (.cells #[.int .i64 kind, .int .i64 proc, .int .i64 page, .int .i64 (n : Int), .int .i64 rights, .int .i64 key, .bool tagged, .int .i64 draw, .int .i64 addr, .int .i64 size, .int .i64 value, .int .i64 tag] 24)) := (Below.refl _ _).alloc (Nat.le_refl _) _
  have HC : Hid (∀ w1, Below (w.alloc (.cells #[.int .i64 kind, .int .i64 proc, .int .i64 page, .int .i64 (n : Int), .int .i64 rights, .int .i64 key, .bool tagged, .int .i64 draw, .int .i64 addr, .int .i64 size, .int .i64 value, .int .i64 tag] 24)).heap.size (w.alloc (.cells #[.int .i64 kind, .int .i64 proc, .int .i64 page, .int .i64 (n : Int), .int .i64 rights, .int .i64 key, .bool tagged, .int .i64 draw, .int .i64 addr, .int .i64 size, .int .i64 value, .int .i64 tag] 24)) w1 → w1.cell? ⟨w.heap.size, 2, none⟩ = some (.int .i64 page) ∧ w1.cell? ⟨g, k * 10 + 1, none⟩ = some (.slice a m cap) ∧ Below w.heap.size w w1 ∧ w.heap.size < w1.heap.size) := fun w1 hb => by
    have ho := own_one (w := w) (xs := [.int .i64 kind, .int .i64 proc, .int .i64 page, .int .i64 (n : Int), .int .i64 rights, .int .i64 key, .bool tagged, .int .i64 draw, .int .i64 addr, .int .i64 size, .int .i64 value, .int .i64 tag]) (e := 24) hb
    have hb2 := hbA.trans (hb.mono hbA.size)
    exact ⟨by rw [ho.cell]; rfl, (hb2.cell (cell_lt h1)).trans h1, hb2, ho.lt⟩
  clear hbA
  go_enter Try.func62, Try.ntmps62
  go_wp2_with fail
  go_loopw [10] (fun i wr => ∃ j : Nat, j ≤ n ∧ i = .int .i64 j ∧ Hid (∀ i, i < j → ((atR L (page + (i : Int))).getD zA).2.2.2 = false) ∧ Below (w.alloc (.cells #[.int .i64 kind, .int .i64 proc, .int .i64 page, .int .i64 (n : Int), .int .i64 rights, .int .i64 key, .bool tagged, .int .i64 draw, .int .i64 addr, .int .i64 size, .int .i64 value, .int .i64 tag] 24)).heap.size (w.alloc (.cells #[.int .i64 kind, .int .i64 proc, .int .i64 page, .int .i64 (n : Int), .int .i64 rights, .int .i64 key, .bool tagged, .int .i64 draw, .int .i64 addr, .int .i64 size, .int .i64 value, .int .i64 tag] 24)) wr) (fun i _ => n - (intOf i).toNat)
  case atStart => exact ⟨0, Nat.zero_le _, rfl, (fun i hi => absurd hi (Nat.not_lt_zero i)), Below.refl _ _⟩
  case round =>
    obtain ⟨j, hj, rfl, hok, hbel⟩ := hrel
    obtain ⟨hc1, hc2, hbw, hlt1⟩ := HC.out _ hbel
    by_cases hlt : j < n
    · have e1 : IntKind.i64.wrap (page + (j : Int)) = page + j := by rw [IntKind.wrap_i64]; omega
      obtain ⟨wo, rfl⟩ : ∃ wo, wo = wr := ⟨_, rfl⟩
      have HF2 : Hid (∀ w1, Below wo.heap.size wo w1 → Calls Try.prog 18 #[.slice a m cap, .int .i64 (IntKind.i64.wrap (page + (j : Int)))] w1 fun e w' => e = .returned (attO (atR L (page + j))) ∧ Below wo.heap.size wo w' ∧ Below w1.heap.size w1 w') := fun w1 hb => by
        rw [e1]
        refine (HF.out w1 _ _ rfl (hbw.trans (hb.mono hbw.size))).mono ?_
        rintro e w2 ⟨he, hb2⟩
        exact ⟨he, hb.trans (hb2.mono hb.size), hb2⟩
      have HY : Hid (((atR L (page + (j : Int))).getD zA).2.2.2 = false → ∀ i, i < j + 1 → ((atR L (page + (i : Int))).getD zA).2.2.2 = false) := fun hz i hi => by
        by_cases he : i = j
        · rw [he]; exact hz
        · exact hok.out i (by omega)
      have HZ : Hid (¬ ((atR L (page + (j : Int))).getD zA).2.2.2 = false → F = true) := fun hz => by
        cases hF : F with
        | false => exact absurd (HT.out.1 hF j hlt) hz
        | true => rfl
      have HB : Hid (∀ w', Below wo.heap.size wo w' → Below (w.alloc (.cells #[.int .i64 kind, .int .i64 proc, .int .i64 page, .int .i64 (n : Int), .int .i64 rights, .int .i64 key, .bool tagged, .int .i64 draw, .int .i64 addr, .int .i64 size, .int .i64 value, .int .i64 tag] 24)).heap.size (w.alloc (.cells #[.int .i64 kind, .int .i64 proc, .int .i64 page, .int .i64 (n : Int), .int .i64 rights, .int .i64 key, .bool tagged, .int .i64 draw, .int .i64 addr, .int .i64 size, .int .i64 value, .int .i64 tag] 24)) w' ∧ Below w.heap.size w w') := fun w' hb => ⟨hbel.trans (hb.mono hbel.size), hbw.trans (hb.mono hbw.size)⟩
      obtain ⟨A, hA⟩ : ∃ A, A = atR L (page + j) := ⟨_, rfl⟩
      rw [← hA] at HF2 HY HZ
      clear hA hok HF HT HC e1
      go_wp2_with fail
      obtain ⟨r, y, t, s, z, hAV, HX⟩ : ∃ r y t s z, attO A = attV r y t s z ∧ Hid ((s = false → ∀ i, i < j + 1 → ((atR L (page + (i : Int))).getD zA).2.2.2 = false) ∧ (s = true → F = true)) := ⟨_, _, _, _, _, rfl, fun hz => HY.out hz, fun hz => HZ.out (by rw [hz]; decide)⟩
      rw [hAV] at HF2
      clear hAV HY HZ
      obtain ⟨P, hP⟩ : ∃ P : Prop, P = ∀ i, i < j + 1 → ((atR L (page + (i : Int))).getD zA).2.2.2 = false := ⟨_, rfl⟩
      rw [← hP] at HX
      have HP : Hid _ := hP
      clear hP
      cases s
      all_goals
        first | (have HQ : Hid P := HX.out.1 rfl) | (have HQ : Hid (F = true) := HX.out.2 rfl)
        clear HX
        go_region_held3 (fun w' => w'.cell? ⟨w.heap.size, 2, none⟩ = some (.int .i64 page) ∧ w'.cell? ⟨g, k * 10 + 1, none⟩ = some (.slice a m cap) ∧ Below wo.heap.size wo w') (first | exact nx2b hc1 hc2 ((Below.refl _ _).drew) | exact nx2b hc1 hc2 hbw2 | exact nx2b hc1 hc2 (((Below.refl _ _).drew).alloc (Nat.le_refl _) _) | exact nx2b hc1 hc2 (hbw2.alloc hbw2.size _) | exact nx2b hc1 hc2 ((((hbw2.setCell (Nat.le_refl _) _).setCell (Nat.le_refl _) _).setCell (Nat.le_refl _) _).setCell (Nat.le_refl _) _)) (first | (go_at_call 18; refine (HF2.out _ (by first | exact (Below.refl _ _).drew | exact ((Below.refl _ _).drew).alloc (Nat.le_refl _) _)).mono ?_; rintro e w2 ⟨rfl, hbw2, hw2⟩; (try have hX : OwnRow w2 wo.heap.size 48 [.int .i64 0, .int .i64 0, .bool false, .bool false] := own_drew hw2); (try obtain ⟨⟨x0, x1, x2, x3⟩, y0, y1, y2, y3⟩ := hX.quadf); (try have hXL := hX.lt); (try clear hX)))
        all_goals obtain ⟨-, -, hH⟩ := (show _ ∧ _ ∧ Below wo.heap.size wo _ by assumption)
        all_goals go_wp2
        all_goals first
          | (go_ret; exact ⟨ret_bool HQ.out.symm, (HB.out _ hH).2⟩)
          | (go_roundw; case rel => exact ⟨j + 1, by omega, by go_num, (by have := HQ.out; rw [HP.out] at this; exact this), (HB.out _ hH).1⟩; case measure => simp [intOf]; omega)
          | exact ⟨⟨j + 1, by omega, by go_num, (by have := HQ.out; rw [HP.out] at this; exact this), (HB.out _ hH).1⟩, by simp [intOf]; omega⟩
    · obtain rfl : j = n := by omega
      have HQ : Hid (F = false) := HT.out.2 hok.out
      go_wp2
      go_ret
      exact ⟨ret_bool HQ.out.symm, hbw⟩

end Go.Proofs.Ytbiipnojhjhejaa

/- The contracts of flat.process.protect and seal: regions are cut, guarded, sealed. -/
namespace Go.Proofs.Ytbiipnojhjhejaa
set_option maxRecDepth 100000
open Go.RowKit
set_option linter.unusedSimpArgs false
set_option linter.unusedVariables false

/-- An operation of such a region is taken first; the slot that it writes is told. -/
theorem take_to {P : Program} {md : Region.Mode} {ops : Array Oper} {Q : Exit → Act → World → Prop} {S : World → Prop} (i : Nat) (dst : Option Tmp) {oi : Oper} {v : Value} {fuel : Nat} {listed : Array Bool} {a : Act} {w : World} (hi : ops[i]? = some oi) (hd : oi.dst = dst)
    (hs : Region.noSelect ops = true) (hf : Region.free md ops listed i = true) (hr : (Region.ready md ops listed).contains i = true)
    (hQ : ∀ c a w, Q (.panic c) (a.put dst v) w → Q (.panic c) a w) (hy : YieldsIf P ops S oi v a) (hS : S w)
    (h : wpAnyH P md ops Q S fuel (listed.setIfInBounds i true) (a.put dst v) w) : wpAnyH P md ops Q S (fuel + 1) listed a w := by
  subst hd
  exact wpAnyH_take hi hs hf hr hQ hy hS h

/-- What keep does with a list that was made. -/
def KP (mv : Value) (base g : Nat) (k : Nat) (wo : World) (S' : W4) (E : Int) (w' : World) (v : Value) : Prop :=
  Calls Try.prog 59 #[(.pointer (some ⟨g, k * 10, none⟩)), v, .int .i64 E] w' fun r w2 => r = .returned (.int .i64 E) ∧ WOK mv base g w2 S' ∧ Spare g wo w2

theorem kp_of {mv : Value} {base g : Nat} {S : W4} {k : Nat} (hk : k < 4) {wo w' : World} {v : Value} {l : List R6} {E : Int} (h : WOK mv base g w' S) (ho : OwnR 50 6 encR base w' v l) (hs : Spare g wo w') :
    KP mv base g k wo (if E = 0 then upd S k { S k with L := l } else S) E w' v :=
  (keep_any mv base g S k hk v l E w' h ho).mono fun r w2 ⟨h1, h2, h3⟩ => ⟨h1, h2, hs.trans h3⟩

theorem spare_of {g : Nat} {wo w1 w2 : World} (h1 : Below wo.heap.size wo w1) (h2 : Below w1.heap.size w1 w2) : Spare g wo w2 := (Spare.of_below h1).trans (Spare.of_below h2)

theorem cut_pack {mv : Value} {base g : Nat} {S : W4} {k : Nat} (hk : k < 4) {wo : World} (h : WOK mv base g wo S) {v : Value} {l : List R6} (hv : IsRecs encR 64 wo v l) (f t : Int) (w1 : World) (hb : Below wo.heap.size wo w1) :
    Calls Try.prog 63 #[v, .int .i64 f, .int .i64 t] w1 fun e w' => ∃ a n c, e = .returned (lstV (.slice a n c) (wrE l f t)) ∧ Hid (KP mv base g k wo (if wrE l f t = 0 then upd S k { S k with L := cutL l f t } else S) (wrE l f t) w' (.slice a n c)) ∧ Spare g wo w' := by
  refine (cut_any v l f t 64 w1 (hv.below hb) (by decide)).mono ?_
  rintro e w2 ⟨v2, rfl, ho, hb2⟩
  have h2 := h.below (hb.trans (hb2.mono hb.size))
  have ho2 : OwnR 50 6 encR base w2 v2 (cutL l f t) := ho.mono (Nat.le_trans h.le hb.size)
  obtain ⟨a, c, rfl⟩ := ho.form
  exact ⟨a, _, c, rfl, kp_of hk h2 ho2 (spare_of hb hb2), spare_of hb hb2⟩

theorem seal_pack {mv : Value} {base g : Nat} {S : W4} {k : Nat} (hk : k < 4) {wo : World} (h : WOK mv base g wo S) {v : Value} {l : List R6} (hv : IsRecs encR 64 wo v l) (f t : Int) (w1 : World) (hb : Below wo.heap.size wo w1) :
    Calls Try.prog 66 #[v, .int .i64 f, .int .i64 t] w1 fun e w' => ∃ a n c, e = .returned (lstV (.slice a n c) (chE l f t)) ∧ Hid (KP mv base g k wo (if chE l f t = 0 then upd S k { S k with L := chL seA l f t } else S) (chE l f t) w' (.slice a n c)) ∧ Spare g wo w' := by
  refine (seal_any v l f t 64 w1 (hv.below hb) (by decide)).mono ?_
  rintro e w2 ⟨v2, rfl, ho, hb2⟩
  have h2 := h.below (hb.trans (hb2.mono hb.size))
  have ho2 : OwnR 50 6 encR base w2 v2 (chL seA l f t) := ho.mono (Nat.le_trans h.le hb.size)
  obtain ⟨a, c, rfl⟩ := ho.form
  exact ⟨a, _, c, rfl, kp_of hk h2 ho2 (spare_of hb hb2), spare_of hb hb2⟩

theorem guard_pack {mv : Value} {base g : Nat} {S : W4} {k : Nat} (hk : k < 4) {wo : World} (h : WOK mv base g wo S) {v : Value} {l : List R6} (hv : IsRecs encR 64 wo v l) (f t r y : Int) (w1 : World) (hb : Below wo.heap.size wo w1) :
    Calls Try.prog 65 #[v, .int .i64 f, .int .i64 t, .int .i64 r, .int .i64 y] w1 fun e w' => ∃ a n c, e = .returned (lstV (.slice a n c) (chE l f t)) ∧ Hid (KP mv base g k wo (if chE l f t = 0 then upd S k { S k with L := chL (guA r y) l f t } else S) (chE l f t) w' (.slice a n c)) ∧ Spare g wo w' := by
  refine (guard_any v l f t r y 64 w1 (hv.below hb) (by decide)).mono ?_
  rintro e w2 ⟨v2, rfl, ho, hb2⟩
  have h2 := h.below (hb.trans (hb2.mono hb.size))
  have ho2 : OwnR 50 6 encR base w2 v2 (chL (guA r y) l f t) := ho.mono (Nat.le_trans h.le hb.size)
  obtain ⟨a, c, rfl⟩ := ho.form
  exact ⟨a, _, c, rfl, kp_of hk h2 ho2 (spare_of hb hb2), spare_of hb hb2⟩

/-- Cells of another block stay as they are. -/
theorem nxs {g : Nat} {wr b : World} {B : Nat} {i j : Nat} {u v : Value} (h1 : wr.cell? ⟨B, i, none⟩ = some u) (h2 : wr.cell? ⟨B, j, none⟩ = some v) (hne : B ≠ g) (h : Spare g wr b) : b.cell? ⟨B, i, none⟩ = some u ∧ b.cell? ⟨B, j, none⟩ = some v ∧ Spare g wr b :=
  ⟨h.cell h1 hne, h.cell h2 hne, h⟩

theorem nxs4 {g : Nat} {wr b : World} {B : Nat} {i j i' j' : Nat} {u v u' v' : Value} (h1 : wr.cell? ⟨B, i, none⟩ = some u) (h2 : wr.cell? ⟨B, j, none⟩ = some v) (h3 : wr.cell? ⟨B, i', none⟩ = some u') (h4 : wr.cell? ⟨B, j', none⟩ = some v') (hne : B ≠ g) (h : Spare g wr b) :
    b.cell? ⟨B, i, none⟩ = some u ∧ b.cell? ⟨B, j, none⟩ = some v ∧ b.cell? ⟨B, i', none⟩ = some u' ∧ b.cell? ⟨B, j', none⟩ = some v' ∧ Spare g wr b :=
  ⟨h.cell h1 hne, h.cell h2 hne, h.cell h3 hne, h.cell h4 hne, h⟩

/-- The cells of what is done, laid in a box of their own. -/
theorem box12 {w w1 : World} {a0 a1 a2 a3 a4 a5 a6 a7 a8 a9 a10 a11 : Value} {e : TypeId} (hb : Below (w.alloc (.cells #[a0, a1, a2, a3, a4, a5, a6, a7, a8, a9, a10, a11] e)).heap.size (w.alloc (.cells #[a0, a1, a2, a3, a4, a5, a6, a7, a8, a9, a10, a11] e)) w1) :
    OwnRow w1 w.heap.size e [a0, a1, a2, a3, a4, a5, a6, a7, a8, a9, a10, a11] := own_one (xs := [a0, a1, a2, a3, a4, a5, a6, a7, a8, a9, a10, a11]) hb

theorem OwnRow.twelve {w : World} {g : Nat} {e : TypeId} {a0 a1 a2 a3 a4 a5 a6 a7 a8 a9 a10 a11 : Value} (h : OwnRow w g e [a0, a1, a2, a3, a4, a5, a6, a7, a8, a9, a10, a11]) :
    (w.cell? ⟨g, 0, none⟩ = some a0 ∧ w.cell? ⟨g, 1, none⟩ = some a1 ∧ w.cell? ⟨g, 2, none⟩ = some a2 ∧ w.cell? ⟨g, 3, none⟩ = some a3 ∧ w.cell? ⟨g, 4, none⟩ = some a4 ∧ w.cell? ⟨g, 5, none⟩ = some a5) ∧
    w.cell? ⟨g, 6, none⟩ = some a6 ∧ w.cell? ⟨g, 7, none⟩ = some a7 ∧ w.cell? ⟨g, 8, none⟩ = some a8 ∧ w.cell? ⟨g, 9, none⟩ = some a9 ∧ w.cell? ⟨g, 10, none⟩ = some a10 ∧ w.cell? ⟨g, 11, none⟩ = some a11 :=
  ⟨⟨by rw [h.cell]; rfl, by rw [h.cell]; rfl, by rw [h.cell]; rfl, by rw [h.cell]; rfl, by rw [h.cell]; rfl, by rw [h.cell]; rfl⟩,
    by rw [h.cell]; rfl, by rw [h.cell]; rfl, by rw [h.cell]; rfl, by rw [h.cell]; rfl, by rw [h.cell]; rfl, by rw [h.cell]; rfl⟩

set_option maxHeartbeats 3200000 in
theorem seal14_any (mv : Value) (base g : Nat) (S : W4) (k : Nat) (hk : k < 4) (o : O12) (hw : bdI o.count) (w : World) (h : WOK mv base g w S) (hi : Inv S) :
    Calls Try.prog 49 #[(.pointer (some ⟨g, k * 10, none⟩)), opV o] w fun e w' => e = .returned (.int .i64 (seaE (S k) o)) ∧ WOK mv base g w' (if seaE (S k) o = 0 then upd S k (seaP (S k) o) else S) ∧ Spare g w w' := by
  have HW : Hid (∀ w1, Below w.heap.size w w1 → WOK mv base g w1 S) := fun w1 hb => h.below hb
  have HI : Hid (Inv S) := hi
  obtain ⟨a, cap, h1, h2, -⟩ := h.recs hi hk
  have HR : Hid (∀ w1, Below w.heap.size w w1 → IsRecs encR 64 w1 (.slice a (S k).L.length cap) (S k).L ∧ w1.cell? ⟨g, k * 10 + 1, none⟩ = some (.slice a (S k).L.length cap)) := fun w1 hb => ⟨h2.below hb, (hb.cell (cell_lt h1)).trans h1⟩
  have hg := h.glt
  have HSP : Hid (∀ w1, Calls Try.prog 61 #[opV o] w1 fun e w' => e = .returned (.bool (isS o)) ∧ Below w1.heap.size w1 w') := fun w1 => isSpan14_any o hw w1
  have HTH : Hid (∀ w1, Below w.heap.size w w1 → isS o = true → Calls Try.prog 64 #[(.pointer (some ⟨g, k * 10, none⟩)), opV o] w1 fun e w' => e = .returned (.bool (thr (S k) o)) ∧ Below w1.heap.size w1 w') := fun w1 hb hs => isThere_any mv base g S k hk o hs w1 (HW.out _ hb) HI.out
  have HPK : Hid (∀ wo, Below w.heap.size w wo → ∀ w1, Below wo.heap.size wo w1 → Calls Try.prog 66 #[.slice a (S k).L.length cap, .int .i64 o.page, .int .i64 (o.page + o.count)] w1 fun e w' => ∃ a n c, e = .returned (lstV (.slice a n c) (chE (S k).L o.page (o.page + o.count))) ∧ Hid (KP mv base g k wo (if chE (S k).L o.page (o.page + o.count) = 0 then upd S k (seaP (S k) o) else S) (chE (S k).L o.page (o.page + o.count)) w' (.slice a n c)) ∧ Spare g wo w') := fun wo hb w1 hb1 => seal_pack hk (HW.out _ hb) (HR.out _ hb).1 o.page (o.page + o.count) w1 hb1
  have HE : Hid (seaE (S k) o = if isS o then if thr (S k) o then chE (S k).L o.page (o.page + o.count) else 1 else 2) := rfl
  have HIS : Hid (isS o = true → IntKind.i64.wrap (o.page + o.count) = o.page + o.count) := fun hs => by
    obtain ⟨q0, q1, q2⟩ := isS_iff.1 hs
    rw [IntKind.wrap_i64]; omega
  clear h h2 hi hw
  generalize chE (S k).L o.page (o.page + o.count) = C at *
  generalize seaP (S k) o = P at *
  generalize seaE (S k) o = E at *
  obtain ⟨R, hR⟩ : ∃ R, Hid (R = if E = 0 then upd S k P else S) := ⟨_, rfl⟩
  rw [← hR.out]
  generalize isS o = I at *
  generalize thr (S k) o = T at *
  generalize (S k).L.length = m at *
  obtain ⟨kind, proc, page, count, rights, key, tagged, draw, addr, size, value, tag⟩ := o
  simp only at HPK HIS ⊢
  have hbA : Below w.heap.size w (w.alloc (.cells #[.int .i64 kind, .int .i64 proc, .int .i64 page, .int .i64 count, .int .i64 rights, .int .i64 key, .bool tagged, .int .i64 draw, .int .i64 addr, .int .i64 size, .int .i64 value, .int .i64 tag] 24)) := (Below.refl _ _).alloc (Nat.le_refl _) _
  have HC : Hid (∀ w1, Below (w.alloc (.cells #[.int .i64 kind, .int .i64 proc, .int .i64 page, .int .i64 count, .int .i64 rights, .int .i64 key, .bool tagged, .int .i64 draw, .int .i64 addr, .int .i64 size, .int .i64 value, .int .i64 tag] 24)).heap.size (w.alloc (.cells #[.int .i64 kind, .int .i64 proc, .int .i64 page, .int .i64 count, .int .i64 rights, .int .i64 key, .bool tagged, .int .i64 draw, .int .i64 addr, .int .i64 size, .int .i64 value, .int .i64 tag] 24)) w1 → OwnRow w1 w.heap.size 24 [.int .i64 kind, .int .i64 proc, .int .i64 page, .int .i64 count, .int .i64 rights, .int .i64 key, .bool tagged, .int .i64 draw, .int .i64 addr, .int .i64 size, .int .i64 value, .int .i64 tag] ∧ Below w.heap.size w w1 ∧ w.heap.size < w1.heap.size) := fun w1 hb => ⟨box12 hb, hbA.trans (hb.mono hbA.size), (box12 hb).lt⟩
  have HBA : Hid (Below w.heap.size w (w.alloc (.cells #[.int .i64 kind, .int .i64 proc, .int .i64 page, .int .i64 count, .int .i64 rights, .int .i64 key, .bool tagged, .int .i64 draw, .int .i64 addr, .int .i64 size, .int .i64 value, .int .i64 tag] 24))) := hbA
  clear hbA
  cases I
  · have HQ : Hid (E = 2) := HE.out
    clear HE HPK
    go_enter Try.func49, Try.ntmps49
    go_wp2_with (first | (go_at_call 61; refine (HSP.out _).mono ?_; rintro e w1 ⟨rfl, hb1⟩; obtain ⟨hbx, hbw, hlt⟩ := HC.out _ hb1; obtain ⟨⟨b0, b1, b2, b3, b4, b5⟩, b6, b7, b8, b9, b10, b11⟩ := hbx.twelve; clear hbx))
    go_ret
    have hR2 := hR.out
    rw [HQ.out] at hR2 ⊢
    rw [hR2]
    exact ⟨rfl, HW.out _ hbw, Spare.of_below hbw⟩
  have HQ0 : Hid (IntKind.i64.wrap (page + count) = page + count) := HIS.out rfl
  clear HIS
  cases T
  case false =>
    have HQ : Hid (E = 1) := HE.out
    clear HE HPK
    go_enter Try.func49, Try.ntmps49
    go_wp2_with (first | (go_at_call 61; refine (HSP.out _).mono ?_; rintro e w1 ⟨rfl, hb1⟩; obtain ⟨hbx, hbw, hlt⟩ := HC.out _ hb1; obtain ⟨⟨b0, b1, b2, b3, b4, b5⟩, b6, b7, b8, b9, b10, b11⟩ := hbx.twelve; clear hbx) | (go_at_call 64; refine (HTH.out _ hbw (by trivial)).mono ?_; rintro e w1 ⟨rfl, hb2⟩; replace hb1 := hb1.trans (hb2.mono hb1.size); clear b0 b1 b2 b3 b4 b5 b6 b7 b8 b9 b10 b11 hlt hbw hb2; obtain ⟨hbx, hbw, hlt⟩ := HC.out _ hb1; obtain ⟨⟨b0, b1, b2, b3, b4, b5⟩, b6, b7, b8, b9, b10, b11⟩ := hbx.twelve; clear hbx))
    go_ret
    have hR2 := hR.out
    rw [HQ.out] at hR2 ⊢
    rw [hR2]
    exact ⟨rfl, HW.out _ hbw, Spare.of_below hbw⟩
  have HQ : Hid (E = C) := HE.out
  obtain rfl := HQ.out
  clear HE HQ
  go_enter Try.func49, Try.ntmps49
  go_wp2_with (first | (go_at_call 61; refine (HSP.out _).mono ?_; rintro e w1 ⟨rfl, hb1⟩; obtain ⟨hbx, hbw, hlt⟩ := HC.out _ hb1; obtain ⟨⟨b0, b1, b2, b3, b4, b5⟩, b6, b7, b8, b9, b10, b11⟩ := hbx.twelve; clear hbx) | (go_at_call 64; refine (HTH.out _ hbw (by trivial)).mono ?_; rintro e w1 ⟨rfl, hb2⟩; replace hb1 := hb1.trans (hb2.mono hb1.size); clear b0 b1 b2 b3 b4 b5 b6 b7 b8 b9 b10 b11 hlt hbw hb2; obtain ⟨hbx, hbw, hlt⟩ := HC.out _ hb1; obtain ⟨⟨b0, b1, b2, b3, b4, b5⟩, b6, b7, b8, b9, b10, b11⟩ := hbx.twelve; clear hbx))
  have hcr := (HR.out _ hbw).2
  obtain ⟨wo, rfl⟩ : ∃ wo, wo = w1 := ⟨_, rfl⟩
  have HPK2 : Hid (∀ w1, Below wo.heap.size wo w1 → Calls Try.prog 66 #[.slice a m cap, .int .i64 page, .int .i64 (IntKind.i64.wrap (page + count))] w1 fun e w' => ∃ a n c, e = .returned (lstV (.slice a n c) E) ∧ Hid (KP mv base g k wo (if E = 0 then upd S k P else S) E w' (.slice a n c)) ∧ Spare g wo w') := fun w1 hb => by rw [HQ0.out]; exact HPK.out _ hbw _ hb
  have HSPW : Hid (Spare g w wo) := Spare.of_below hbw
  clear HPK HR HSP HQ0
  refine wp_region_noPanic ?_
  refine wp_region_held_drew (S := (fun w' => w'.cell? ⟨w.heap.size, 2, none⟩ = some (.int .i64 page) ∧ w'.cell? ⟨w.heap.size, 3, none⟩ = some (.int .i64 count) ∧ Spare g wo w')) (by kernel_rfl) (by exact nxs b2 b3 (Nat.ne_of_gt hg) (Spare.of_below (Below.refl _ _).drew)) (fun hHeld => ?_)
  refine take_to 0 (some 12) (v := ?_) rfl rfl (by kernel_rfl) (by kernel_rfl) (by kernel_rfl) (fun _ _ _ h => h) (Or.inl ⟨by rfl, ?_⟩) (by assumption) ?_
  rotate_left
  · intro w hSw
    (try dsimp only at hSw)
    go_simp
    with_reducible rfl
  simp only [Act.put, List.setIfInBounds_toArray, List.set_cons_zero, List.set_cons_succ]
  refine take_to 1 (some 13) (v := ?_) rfl rfl (by kernel_rfl) (by kernel_rfl) (by kernel_rfl) (fun _ _ _ h => h) (Or.inl ⟨by rfl, ?_⟩) (by assumption) ?_
  rotate_left
  · intro w hSw
    (try dsimp only at hSw)
    go_simp
    with_reducible rfl
  simp only [Act.put, List.setIfInBounds_toArray, List.set_cons_zero, List.set_cons_succ]
  refine take_to 2 (some 14) (v := ?_) rfl rfl (by kernel_rfl) (by kernel_rfl) (by kernel_rfl) (fun _ _ _ h => h) (Or.inl ⟨by rfl, ?_⟩) (by assumption) ?_
  rotate_left
  · intro w hSw
    (try dsimp only at hSw)
    go_simp
    with_reducible rfl
  simp only [Act.put, List.setIfInBounds_toArray, List.set_cons_zero, List.set_cons_succ]
  refine take_to 3 (some 15) (v := ?_) rfl rfl (by kernel_rfl) (by kernel_rfl) (by kernel_rfl) (fun _ _ _ h => h) (Or.inl ⟨by rfl, ?_⟩) (by assumption) ?_
  rotate_left
  · intro w hSw
    (try dsimp only at hSw)
    go_simp
    with_reducible rfl
  simp only [Act.put, List.setIfInBounds_toArray, List.set_cons_zero, List.set_cons_succ]
  refine take_to 5 (some 17) (v := ?_) rfl rfl (by kernel_rfl) (by kernel_rfl) (by kernel_rfl) (fun _ _ _ h => h) (Or.inl ⟨by rfl, ?_⟩) (by assumption) ?_
  rotate_left
  · intro w hSw
    (try dsimp only at hSw)
    go_simp
    with_reducible rfl
  simp only [Act.put, List.setIfInBounds_toArray, List.set_cons_zero, List.set_cons_succ]
  refine take_to 6 (some 18) (v := ?_) rfl rfl (by kernel_rfl) (by kernel_rfl) (by kernel_rfl) (fun _ _ _ h => h) (Or.inl ⟨by rfl, ?_⟩) (by assumption) ?_
  rotate_left
  · intro w hSw
    (try dsimp only at hSw)
    go_simp
    with_reducible rfl
  simp only [Act.put, List.setIfInBounds_toArray, List.set_cons_zero, List.set_cons_succ]
  refine take_to 7 (some 19) (v := ?_) rfl rfl (by kernel_rfl) (by kernel_rfl) (by kernel_rfl) (fun _ _ _ h => h) (Or.inl ⟨by rfl, ?_⟩) (by assumption) ?_
  rotate_left
  · intro w hSw
    (try dsimp only at hSw)
    go_simp
    with_reducible rfl
  simp only [Act.put, List.setIfInBounds_toArray, List.set_cons_zero, List.set_cons_succ]
  refine take_to 8 (some 20) (v := ?_) rfl rfl (by kernel_rfl) (by kernel_rfl) (by kernel_rfl) (fun _ _ _ h => h) (Or.inl ⟨by rfl, ?_⟩) (by assumption) ?_
  rotate_left
  · intro w hSw
    (try dsimp only at hSw)
    go_simp
    with_reducible rfl
  simp only [Act.put, List.setIfInBounds_toArray, List.set_cons_zero, List.set_cons_succ]
  refine take_to 9 (some 21) (v := ?_) rfl rfl (by kernel_rfl) (by kernel_rfl) (by kernel_rfl) (fun _ _ _ h => h) (Or.inl ⟨by rfl, ?_⟩) (by assumption) ?_
  rotate_left
  · intro w hSw
    (try dsimp only at hSw)
    go_simp
    with_reducible rfl
  simp only [Act.put, List.setIfInBounds_toArray, List.set_cons_zero, List.set_cons_succ]
  refine take_to 10 (some 22) (v := ?_) rfl rfl (by kernel_rfl) (by kernel_rfl) (by kernel_rfl) (fun _ _ _ h => h) (Or.inl ⟨by rfl, ?_⟩) (by assumption) ?_
  rotate_left
  · intro w hSw
    (try dsimp only at hSw)
    go_simp
    with_reducible rfl
  simp only [Act.put, List.setIfInBounds_toArray, List.set_cons_zero, List.set_cons_succ]
  refine take_to 11 (some 23) (v := ?_) rfl rfl (by kernel_rfl) (by kernel_rfl) (by kernel_rfl) (fun _ _ _ h => h) (Or.inl ⟨by rfl, ?_⟩) (by assumption) ?_
  rotate_left
  · intro w hSw
    (try dsimp only at hSw)
    go_simp
    with_reducible rfl
  simp only [Act.put, List.setIfInBounds_toArray, List.set_cons_zero, List.set_cons_succ]
  refine wpAnyH_ready (rs := [4]) (by kernel_rfl) (by simp) ?_
  refine AllReadyH.cons rfl (fun K hK => ?_) AllReadyH.nil
  go_simp
  refine hK.out _ _ (by exact nxs b2 b3 (Nat.ne_of_gt hg) (Spare.of_below (Below.refl _ _).drew)) (fun hHeld => ?_)
  clear hK K
  try simp only [Act.put, List.setIfInBounds_toArray, List.set_cons_zero, List.set_cons_succ]
  refine wpAnyH_ready (rs := [12]) (by kernel_rfl) (by simp) ?_
  refine AllReadyH.cons rfl (fun K hK => ?_) AllReadyH.nil
  go_simp
  refine Calls.mono (HPK2.out _ (Below.refl _ _).drew) ?_
  rintro e w2 ⟨a2, n2, c2, rfl, HK2, hsp2⟩
  go_wp2_with fail
  refine hK.out _ _ (by exact nxs b2 b3 (Nat.ne_of_gt hg) (hsp2)) (fun hHeld => ?_)
  clear hK K
  try simp only [Act.put, List.setIfInBounds_toArray, List.set_cons_zero, List.set_cons_succ]
  refine take_to 13 (some 25) (v := ?_) rfl rfl (by kernel_rfl) (by kernel_rfl) (by kernel_rfl) (fun _ _ _ h => h) (Or.inl ⟨by rfl, ?_⟩) (by assumption) ?_
  rotate_left
  · intro w hSw
    (try dsimp only at hSw)
    go_simp
    with_reducible rfl
  simp only [Act.put, List.setIfInBounds_toArray, List.set_cons_zero, List.set_cons_succ]
  refine take_to 14 (some 26) (v := ?_) rfl rfl (by kernel_rfl) (by kernel_rfl) (by kernel_rfl) (fun _ _ _ h => h) (Or.inl ⟨by rfl, ?_⟩) (by assumption) ?_
  rotate_left
  · intro w hSw
    (try dsimp only at hSw)
    go_simp
    with_reducible rfl
  simp only [Act.put, List.setIfInBounds_toArray, List.set_cons_zero, List.set_cons_succ]
  refine wpAnyH_ready (rs := [15]) (by kernel_rfl) (by simp) ?_
  refine AllReadyH.cons rfl (fun K hK => ?_) AllReadyH.nil
  go_simp
  refine Calls.mono (HK2.out) ?_
  rintro e w3 ⟨rfl, hw3, hsp3⟩
  have HW3 : Hid _ := hw3
  clear hw3
  go_wp2_with fail
  refine hK.out _ _ (by exact nxs b2 b3 (Nat.ne_of_gt hg) (hsp3)) (fun hHeld => ?_)
  clear hK K
  try simp only [Act.put, List.setIfInBounds_toArray, List.set_cons_zero, List.set_cons_succ]
  refine take_to 16 (some 4) (v := ?_) rfl rfl (by kernel_rfl) (by kernel_rfl) (by kernel_rfl) (fun _ _ _ h => h) (Or.inl ⟨by rfl, ?_⟩) (by assumption) ?_
  rotate_left
  · intro w hSw
    (try dsimp only at hSw)
    go_simp
    with_reducible rfl
  simp only [Act.put, List.setIfInBounds_toArray, List.set_cons_zero, List.set_cons_succ]
  refine wpAnyH_done (by kernel_rfl) ?_ _
  refine NoPanic.normal ?_
  go_wp2
  go_ret
  exact ⟨rfl, hR.out ▸ HW3.out, HSPW.out.trans hsp3⟩

set_option maxHeartbeats 3200000 in
theorem protect14_any (mv : Value) (base g : Nat) (S : W4) (k : Nat) (hk : k < 4) (o : O12) (hw : bdI o.count) (w : World) (h : WOK mv base g w S) (hi : Inv S) :
    Calls Try.prog 48 #[(.pointer (some ⟨g, k * 10, none⟩)), opV o] w fun e w' => e = .returned (.int .i64 (proE (S k) o)) ∧ WOK mv base g w' (if proE (S k) o = 0 then upd S k (proP (S k) o) else S) ∧ Spare g w w' := by
  have HW : Hid (∀ w1, Below w.heap.size w w1 → WOK mv base g w1 S) := fun w1 hb => h.below hb
  have HI : Hid (Inv S) := hi
  obtain ⟨a, cap, h1, h2, -⟩ := h.recs hi hk
  have HR : Hid (∀ w1, Below w.heap.size w w1 → IsRecs encR 64 w1 (.slice a (S k).L.length cap) (S k).L ∧ w1.cell? ⟨g, k * 10 + 1, none⟩ = some (.slice a (S k).L.length cap)) := fun w1 hb => ⟨h2.below hb, (hb.cell (cell_lt h1)).trans h1⟩
  have hg := h.glt
  have HSP : Hid (∀ w1, Calls Try.prog 61 #[opV o] w1 fun e w' => e = .returned (.bool (isS o)) ∧ Below w1.heap.size w1 w') := fun w1 => isSpan14_any o hw w1
  have HTH : Hid (∀ w1, Below w.heap.size w w1 → isS o = true → Calls Try.prog 64 #[(.pointer (some ⟨g, k * 10, none⟩)), opV o] w1 fun e w' => e = .returned (.bool (thr (S k) o)) ∧ Below w1.heap.size w1 w') := fun w1 hb hs => isThere_any mv base g S k hk o hs w1 (HW.out _ hb) HI.out
  have HSE : Hid (∀ w1, Below w.heap.size w w1 → isS o = true → Calls Try.prog 62 #[(.pointer (some ⟨g, k * 10, none⟩)), opV o] w1 fun e w' => e = .returned (.bool (sld (S k) o)) ∧ Below w1.heap.size w1 w') := fun w1 hb hs => isSealed_any mv base g S k hk o hs w1 (HW.out _ hb) HI.out
  have HWG : Hid (∀ w1, Below w.heap.size w w1 → Calls Try.prog 56 #[(.pointer (some ⟨g, k * 10, none⟩)), opV o] w1 fun e w' => e = .returned (.int .i64 (wgE (S k) o)) ∧ Below w1.heap.size w1 w') := fun w1 hb => wrongGuard_any mv base g S k hk o w1 (HW.out _ hb)
  have HPK : Hid (∀ wo, Below w.heap.size w wo → ∀ w1, Below wo.heap.size wo w1 → Calls Try.prog 65 #[.slice a (S k).L.length cap, .int .i64 o.page, .int .i64 (o.page + o.count), .int .i64 o.rights, .int .i64 o.key] w1 fun e w' => ∃ a n c, e = .returned (lstV (.slice a n c) (chE (S k).L o.page (o.page + o.count))) ∧ Hid (KP mv base g k wo (if chE (S k).L o.page (o.page + o.count) = 0 then upd S k (proP (S k) o) else S) (chE (S k).L o.page (o.page + o.count)) w' (.slice a n c)) ∧ Spare g wo w') := fun wo hb w1 hb1 => guard_pack hk (HW.out _ hb) (HR.out _ hb).1 o.page (o.page + o.count) o.rights o.key w1 hb1
  have HE : Hid (proE (S k) o = if isS o then if wgE (S k) o = 0 then if thr (S k) o then if sld (S k) o then 7 else chE (S k).L o.page (o.page + o.count) else 1 else wgE (S k) o else 2) := rfl
  have HIS : Hid (isS o = true → IntKind.i64.wrap (o.page + o.count) = o.page + o.count) := fun hs => by
    obtain ⟨q0, q1, q2⟩ := isS_iff.1 hs
    rw [IntKind.wrap_i64]; omega
  clear h h2 hi hw
  generalize chE (S k).L o.page (o.page + o.count) = C at *
  generalize proP (S k) o = P at *
  generalize proE (S k) o = E at *
  obtain ⟨R, hR⟩ : ∃ R, Hid (R = if E = 0 then upd S k P else S) := ⟨_, rfl⟩
  rw [← hR.out]
  generalize isS o = I at *
  generalize thr (S k) o = T at *
  generalize sld (S k) o = D at *
  generalize wgE (S k) o = G at *
  generalize (S k).L.length = m at *
  obtain ⟨kind, proc, page, count, rights, key, tagged, draw, addr, size, value, tag⟩ := o
  simp only at HPK HIS ⊢
  have hbA : Below w.heap.size w (w.alloc (.cells #[.int .i64 kind, .int .i64 proc, .int .i64 page, .int .i64 count, .int .i64 rights, .int .i64 key, .bool tagged, .int .i64 draw, .int .i64 addr, .int .i64 size, .int .i64 value, .int .i64 tag] 24)) := (Below.refl _ _).alloc (Nat.le_refl _) _
  have HC : Hid (∀ w1, Below (w.alloc (.cells #[.int .i64 kind, .int .i64 proc, .int .i64 page, .int .i64 count, .int .i64 rights, .int .i64 key, .bool tagged, .int .i64 draw, .int .i64 addr, .int .i64 size, .int .i64 value, .int .i64 tag] 24)).heap.size (w.alloc (.cells #[.int .i64 kind, .int .i64 proc, .int .i64 page, .int .i64 count, .int .i64 rights, .int .i64 key, .bool tagged, .int .i64 draw, .int .i64 addr, .int .i64 size, .int .i64 value, .int .i64 tag] 24)) w1 → OwnRow w1 w.heap.size 24 [.int .i64 kind, .int .i64 proc, .int .i64 page, .int .i64 count, .int .i64 rights, .int .i64 key, .bool tagged, .int .i64 draw, .int .i64 addr, .int .i64 size, .int .i64 value, .int .i64 tag] ∧ Below w.heap.size w w1 ∧ w.heap.size < w1.heap.size) := fun w1 hb => ⟨box12 hb, hbA.trans (hb.mono hbA.size), (box12 hb).lt⟩
  have HBA : Hid (Below w.heap.size w (w.alloc (.cells #[.int .i64 kind, .int .i64 proc, .int .i64 page, .int .i64 count, .int .i64 rights, .int .i64 key, .bool tagged, .int .i64 draw, .int .i64 addr, .int .i64 size, .int .i64 value, .int .i64 tag] 24))) := hbA
  clear hbA
  cases I
  · have HQ : Hid (E = 2) := HE.out
    clear HE HPK
    go_enter Try.func48, Try.ntmps48
    go_wp2_with (first | (go_at_call 61; refine (HSP.out _).mono ?_; rintro e w1 ⟨rfl, hb1⟩; obtain ⟨hbx, hbw, hlt⟩ := HC.out _ hb1; obtain ⟨⟨b0, b1, b2, b3, b4, b5⟩, b6, b7, b8, b9, b10, b11⟩ := hbx.twelve; clear hbx))
    go_ret
    have hR2 := hR.out
    rw [HQ.out] at hR2 ⊢
    rw [hR2]
    exact ⟨rfl, HW.out _ hbw, Spare.of_below hbw⟩
  have HQ0 : Hid (IntKind.i64.wrap (page + count) = page + count) := HIS.out rfl
  clear HIS
  by_cases hG : G = 0
  case neg =>
    have HQ : Hid (E = G) := HE.out.trans (by simp [hG])
    have hGd : (G != 0) = true := by simpa using hG
    clear HE HPK
    go_enter Try.func48, Try.ntmps48
    go_wp2_with (first | (go_at_call 61; refine (HSP.out _).mono ?_; rintro e w1 ⟨rfl, hb1⟩; obtain ⟨hbx, hbw, hlt⟩ := HC.out _ hb1; obtain ⟨⟨b0, b1, b2, b3, b4, b5⟩, b6, b7, b8, b9, b10, b11⟩ := hbx.twelve; clear hbx) | (go_at_call 56; refine (HWG.out _ hbw).mono ?_; rintro e w1 ⟨rfl, hb2⟩; replace hb1 := hb1.trans (hb2.mono hb1.size); clear b0 b1 b2 b3 b4 b5 b6 b7 b8 b9 b10 b11 hlt hbw hb2; obtain ⟨hbx, hbw, hlt⟩ := HC.out _ hb1; obtain ⟨⟨b0, b1, b2, b3, b4, b5⟩, b6, b7, b8, b9, b10, b11⟩ := hbx.twelve; clear hbx))
    go_ret
    have hR2 := hR.out
    rw [HQ.out, if_neg hG] at hR2
    rw [HQ.out, hR2]
    exact ⟨rfl, HW.out _ hbw, Spare.of_below hbw⟩
  subst hG
  cases T
  case false =>
    have HQ : Hid (E = 1) := HE.out
    clear HE HPK
    go_enter Try.func48, Try.ntmps48
    go_wp2_with (first | (go_at_call 61; refine (HSP.out _).mono ?_; rintro e w1 ⟨rfl, hb1⟩; obtain ⟨hbx, hbw, hlt⟩ := HC.out _ hb1; obtain ⟨⟨b0, b1, b2, b3, b4, b5⟩, b6, b7, b8, b9, b10, b11⟩ := hbx.twelve; clear hbx) | (go_at_call 56; refine (HWG.out _ hbw).mono ?_; rintro e w1 ⟨rfl, hb2⟩; replace hb1 := hb1.trans (hb2.mono hb1.size); clear b0 b1 b2 b3 b4 b5 b6 b7 b8 b9 b10 b11 hlt hbw hb2; obtain ⟨hbx, hbw, hlt⟩ := HC.out _ hb1; obtain ⟨⟨b0, b1, b2, b3, b4, b5⟩, b6, b7, b8, b9, b10, b11⟩ := hbx.twelve; clear hbx) | (go_at_call 64; refine (HTH.out _ hbw (by trivial)).mono ?_; rintro e w1 ⟨rfl, hb2⟩; replace hb1 := hb1.trans (hb2.mono hb1.size); clear b0 b1 b2 b3 b4 b5 b6 b7 b8 b9 b10 b11 hlt hbw hb2; obtain ⟨hbx, hbw, hlt⟩ := HC.out _ hb1; obtain ⟨⟨b0, b1, b2, b3, b4, b5⟩, b6, b7, b8, b9, b10, b11⟩ := hbx.twelve; clear hbx))
    go_ret
    have hR2 := hR.out
    rw [HQ.out] at hR2 ⊢
    rw [hR2]
    exact ⟨rfl, HW.out _ hbw, Spare.of_below hbw⟩
  cases D
  case true =>
    have HQ : Hid (E = 7) := HE.out
    clear HE HPK
    go_enter Try.func48, Try.ntmps48
    go_wp2_with (first | (go_at_call 61; refine (HSP.out _).mono ?_; rintro e w1 ⟨rfl, hb1⟩; obtain ⟨hbx, hbw, hlt⟩ := HC.out _ hb1; obtain ⟨⟨b0, b1, b2, b3, b4, b5⟩, b6, b7, b8, b9, b10, b11⟩ := hbx.twelve; clear hbx) | (go_at_call 56; refine (HWG.out _ hbw).mono ?_; rintro e w1 ⟨rfl, hb2⟩; replace hb1 := hb1.trans (hb2.mono hb1.size); clear b0 b1 b2 b3 b4 b5 b6 b7 b8 b9 b10 b11 hlt hbw hb2; obtain ⟨hbx, hbw, hlt⟩ := HC.out _ hb1; obtain ⟨⟨b0, b1, b2, b3, b4, b5⟩, b6, b7, b8, b9, b10, b11⟩ := hbx.twelve; clear hbx) | (go_at_call 64; refine (HTH.out _ hbw (by trivial)).mono ?_; rintro e w1 ⟨rfl, hb2⟩; replace hb1 := hb1.trans (hb2.mono hb1.size); clear b0 b1 b2 b3 b4 b5 b6 b7 b8 b9 b10 b11 hlt hbw hb2; obtain ⟨hbx, hbw, hlt⟩ := HC.out _ hb1; obtain ⟨⟨b0, b1, b2, b3, b4, b5⟩, b6, b7, b8, b9, b10, b11⟩ := hbx.twelve; clear hbx) | (go_at_call 62; refine (HSE.out _ hbw (by trivial)).mono ?_; rintro e w1 ⟨rfl, hb2⟩; replace hb1 := hb1.trans (hb2.mono hb1.size); clear b0 b1 b2 b3 b4 b5 b6 b7 b8 b9 b10 b11 hlt hbw hb2; obtain ⟨hbx, hbw, hlt⟩ := HC.out _ hb1; obtain ⟨⟨b0, b1, b2, b3, b4, b5⟩, b6, b7, b8, b9, b10, b11⟩ := hbx.twelve; clear hbx))
    go_ret
    have hR2 := hR.out
    rw [HQ.out] at hR2 ⊢
    rw [hR2]
    exact ⟨rfl, HW.out _ hbw, Spare.of_below hbw⟩
  have HQ : Hid (E = C) := HE.out
  obtain rfl := HQ.out
  clear HE HQ
  go_enter Try.func48, Try.ntmps48
  go_wp2_with (first | (go_at_call 61; refine (HSP.out _).mono ?_; rintro e w1 ⟨rfl, hb1⟩; obtain ⟨hbx, hbw, hlt⟩ := HC.out _ hb1; obtain ⟨⟨b0, b1, b2, b3, b4, b5⟩, b6, b7, b8, b9, b10, b11⟩ := hbx.twelve; clear hbx) | (go_at_call 56; refine (HWG.out _ hbw).mono ?_; rintro e w1 ⟨rfl, hb2⟩; replace hb1 := hb1.trans (hb2.mono hb1.size); clear b0 b1 b2 b3 b4 b5 b6 b7 b8 b9 b10 b11 hlt hbw hb2; obtain ⟨hbx, hbw, hlt⟩ := HC.out _ hb1; obtain ⟨⟨b0, b1, b2, b3, b4, b5⟩, b6, b7, b8, b9, b10, b11⟩ := hbx.twelve; clear hbx) | (go_at_call 64; refine (HTH.out _ hbw (by trivial)).mono ?_; rintro e w1 ⟨rfl, hb2⟩; replace hb1 := hb1.trans (hb2.mono hb1.size); clear b0 b1 b2 b3 b4 b5 b6 b7 b8 b9 b10 b11 hlt hbw hb2; obtain ⟨hbx, hbw, hlt⟩ := HC.out _ hb1; obtain ⟨⟨b0, b1, b2, b3, b4, b5⟩, b6, b7, b8, b9, b10, b11⟩ := hbx.twelve; clear hbx) | (go_at_call 62; refine (HSE.out _ hbw (by trivial)).mono ?_; rintro e w1 ⟨rfl, hb2⟩; replace hb1 := hb1.trans (hb2.mono hb1.size); clear b0 b1 b2 b3 b4 b5 b6 b7 b8 b9 b10 b11 hlt hbw hb2; obtain ⟨hbx, hbw, hlt⟩ := HC.out _ hb1; obtain ⟨⟨b0, b1, b2, b3, b4, b5⟩, b6, b7, b8, b9, b10, b11⟩ := hbx.twelve; clear hbx))
  have hcr := (HR.out _ hbw).2
  obtain ⟨wo, rfl⟩ : ∃ wo, wo = w1 := ⟨_, rfl⟩
  have HPK2 : Hid (∀ w1, Below wo.heap.size wo w1 → Calls Try.prog 65 #[.slice a m cap, .int .i64 page, .int .i64 (IntKind.i64.wrap (page + count)), .int .i64 rights, .int .i64 key] w1 fun e w' => ∃ a n c, e = .returned (lstV (.slice a n c) E) ∧ Hid (KP mv base g k wo (if E = 0 then upd S k P else S) E w' (.slice a n c)) ∧ Spare g wo w') := fun w1 hb => by rw [HQ0.out]; exact HPK.out _ hbw _ hb
  have HSPW : Hid (Spare g w wo) := Spare.of_below hbw
  clear HPK HR HSP HQ0
  refine wp_region_noPanic ?_
  refine wp_region_held_drew (S := (fun w' => w'.cell? ⟨w.heap.size, 2, none⟩ = some (.int .i64 page) ∧ w'.cell? ⟨w.heap.size, 3, none⟩ = some (.int .i64 count) ∧ w'.cell? ⟨w.heap.size, 4, none⟩ = some (.int .i64 rights) ∧ w'.cell? ⟨w.heap.size, 5, none⟩ = some (.int .i64 key) ∧ Spare g wo w')) (by kernel_rfl) (by exact nxs4 b2 b3 b4 b5 (Nat.ne_of_gt hg) (Spare.of_below (Below.refl _ _).drew)) (fun hHeld => ?_)
  refine take_to 0 (some 22) (v := ?_) rfl rfl (by kernel_rfl) (by kernel_rfl) (by kernel_rfl) (fun _ _ _ h => h) (Or.inl ⟨by rfl, ?_⟩) (by assumption) ?_
  rotate_left
  · intro w hSw
    (try dsimp only at hSw)
    go_simp
    with_reducible rfl
  simp only [Act.put, List.setIfInBounds_toArray, List.set_cons_zero, List.set_cons_succ]
  refine take_to 1 (some 23) (v := ?_) rfl rfl (by kernel_rfl) (by kernel_rfl) (by kernel_rfl) (fun _ _ _ h => h) (Or.inl ⟨by rfl, ?_⟩) (by assumption) ?_
  rotate_left
  · intro w hSw
    (try dsimp only at hSw)
    go_simp
    with_reducible rfl
  simp only [Act.put, List.setIfInBounds_toArray, List.set_cons_zero, List.set_cons_succ]
  refine take_to 2 (some 24) (v := ?_) rfl rfl (by kernel_rfl) (by kernel_rfl) (by kernel_rfl) (fun _ _ _ h => h) (Or.inl ⟨by rfl, ?_⟩) (by assumption) ?_
  rotate_left
  · intro w hSw
    (try dsimp only at hSw)
    go_simp
    with_reducible rfl
  simp only [Act.put, List.setIfInBounds_toArray, List.set_cons_zero, List.set_cons_succ]
  refine take_to 3 (some 25) (v := ?_) rfl rfl (by kernel_rfl) (by kernel_rfl) (by kernel_rfl) (fun _ _ _ h => h) (Or.inl ⟨by rfl, ?_⟩) (by assumption) ?_
  rotate_left
  · intro w hSw
    (try dsimp only at hSw)
    go_simp
    with_reducible rfl
  simp only [Act.put, List.setIfInBounds_toArray, List.set_cons_zero, List.set_cons_succ]
  refine take_to 5 (some 27) (v := ?_) rfl rfl (by kernel_rfl) (by kernel_rfl) (by kernel_rfl) (fun _ _ _ h => h) (Or.inl ⟨by rfl, ?_⟩) (by assumption) ?_
  rotate_left
  · intro w hSw
    (try dsimp only at hSw)
    go_simp
    with_reducible rfl
  simp only [Act.put, List.setIfInBounds_toArray, List.set_cons_zero, List.set_cons_succ]
  refine take_to 6 (some 28) (v := ?_) rfl rfl (by kernel_rfl) (by kernel_rfl) (by kernel_rfl) (fun _ _ _ h => h) (Or.inl ⟨by rfl, ?_⟩) (by assumption) ?_
  rotate_left
  · intro w hSw
    (try dsimp only at hSw)
    go_simp
    with_reducible rfl
  simp only [Act.put, List.setIfInBounds_toArray, List.set_cons_zero, List.set_cons_succ]
  refine take_to 7 (some 29) (v := ?_) rfl rfl (by kernel_rfl) (by kernel_rfl) (by kernel_rfl) (fun _ _ _ h => h) (Or.inl ⟨by rfl, ?_⟩) (by assumption) ?_
  rotate_left
  · intro w hSw
    (try dsimp only at hSw)
    go_simp
    with_reducible rfl
  simp only [Act.put, List.setIfInBounds_toArray, List.set_cons_zero, List.set_cons_succ]
  refine take_to 8 (some 30) (v := ?_) rfl rfl (by kernel_rfl) (by kernel_rfl) (by kernel_rfl) (fun _ _ _ h => h) (Or.inl ⟨by rfl, ?_⟩) (by assumption) ?_
  rotate_left
  · intro w hSw
    (try dsimp only at hSw)
    go_simp
    with_reducible rfl
  simp only [Act.put, List.setIfInBounds_toArray, List.set_cons_zero, List.set_cons_succ]
  refine take_to 9 (some 31) (v := ?_) rfl rfl (by kernel_rfl) (by kernel_rfl) (by kernel_rfl) (fun _ _ _ h => h) (Or.inl ⟨by rfl, ?_⟩) (by assumption) ?_
  rotate_left
  · intro w hSw
    (try dsimp only at hSw)
    go_simp
    with_reducible rfl
  simp only [Act.put, List.setIfInBounds_toArray, List.set_cons_zero, List.set_cons_succ]
  refine take_to 10 (some 32) (v := ?_) rfl rfl (by kernel_rfl) (by kernel_rfl) (by kernel_rfl) (fun _ _ _ h => h) (Or.inl ⟨by rfl, ?_⟩) (by assumption) ?_
  rotate_left
  · intro w hSw
    (try dsimp only at hSw)
    go_simp
    with_reducible rfl
  simp only [Act.put, List.setIfInBounds_toArray, List.set_cons_zero, List.set_cons_succ]
  refine take_to 11 (some 33) (v := ?_) rfl rfl (by kernel_rfl) (by kernel_rfl) (by kernel_rfl) (fun _ _ _ h => h) (Or.inl ⟨by rfl, ?_⟩) (by assumption) ?_
  rotate_left
  · intro w hSw
    (try dsimp only at hSw)
    go_simp
    with_reducible rfl
  simp only [Act.put, List.setIfInBounds_toArray, List.set_cons_zero, List.set_cons_succ]
  refine take_to 12 (some 34) (v := ?_) rfl rfl (by kernel_rfl) (by kernel_rfl) (by kernel_rfl) (fun _ _ _ h => h) (Or.inl ⟨by rfl, ?_⟩) (by assumption) ?_
  rotate_left
  · intro w hSw
    (try dsimp only at hSw)
    go_simp
    with_reducible rfl
  simp only [Act.put, List.setIfInBounds_toArray, List.set_cons_zero, List.set_cons_succ]
  refine take_to 13 (some 35) (v := ?_) rfl rfl (by kernel_rfl) (by kernel_rfl) (by kernel_rfl) (fun _ _ _ h => h) (Or.inl ⟨by rfl, ?_⟩) (by assumption) ?_
  rotate_left
  · intro w hSw
    (try dsimp only at hSw)
    go_simp
    with_reducible rfl
  simp only [Act.put, List.setIfInBounds_toArray, List.set_cons_zero, List.set_cons_succ]
  refine take_to 14 (some 36) (v := ?_) rfl rfl (by kernel_rfl) (by kernel_rfl) (by kernel_rfl) (fun _ _ _ h => h) (Or.inl ⟨by rfl, ?_⟩) (by assumption) ?_
  rotate_left
  · intro w hSw
    (try dsimp only at hSw)
    go_simp
    with_reducible rfl
  simp only [Act.put, List.setIfInBounds_toArray, List.set_cons_zero, List.set_cons_succ]
  refine take_to 15 (some 37) (v := ?_) rfl rfl (by kernel_rfl) (by kernel_rfl) (by kernel_rfl) (fun _ _ _ h => h) (Or.inl ⟨by rfl, ?_⟩) (by assumption) ?_
  rotate_left
  · intro w hSw
    (try dsimp only at hSw)
    go_simp
    with_reducible rfl
  simp only [Act.put, List.setIfInBounds_toArray, List.set_cons_zero, List.set_cons_succ]
  refine wpAnyH_ready (rs := [4]) (by kernel_rfl) (by simp) ?_
  refine AllReadyH.cons rfl (fun K hK => ?_) AllReadyH.nil
  go_simp
  refine hK.out _ _ (by exact nxs4 b2 b3 b4 b5 (Nat.ne_of_gt hg) (Spare.of_below (Below.refl _ _).drew)) (fun hHeld => ?_)
  clear hK K
  try simp only [Act.put, List.setIfInBounds_toArray, List.set_cons_zero, List.set_cons_succ]
  refine wpAnyH_ready (rs := [16]) (by kernel_rfl) (by simp) ?_
  refine AllReadyH.cons rfl (fun K hK => ?_) AllReadyH.nil
  go_simp
  refine Calls.mono (HPK2.out _ (Below.refl _ _).drew) ?_
  rintro e w2 ⟨a2, n2, c2, rfl, HK2, hsp2⟩
  go_wp2_with fail
  refine hK.out _ _ (by exact nxs4 b2 b3 b4 b5 (Nat.ne_of_gt hg) (hsp2)) (fun hHeld => ?_)
  clear hK K
  try simp only [Act.put, List.setIfInBounds_toArray, List.set_cons_zero, List.set_cons_succ]
  refine take_to 17 (some 39) (v := ?_) rfl rfl (by kernel_rfl) (by kernel_rfl) (by kernel_rfl) (fun _ _ _ h => h) (Or.inl ⟨by rfl, ?_⟩) (by assumption) ?_
  rotate_left
  · intro w hSw
    (try dsimp only at hSw)
    go_simp
    with_reducible rfl
  simp only [Act.put, List.setIfInBounds_toArray, List.set_cons_zero, List.set_cons_succ]
  refine take_to 18 (some 40) (v := ?_) rfl rfl (by kernel_rfl) (by kernel_rfl) (by kernel_rfl) (fun _ _ _ h => h) (Or.inl ⟨by rfl, ?_⟩) (by assumption) ?_
  rotate_left
  · intro w hSw
    (try dsimp only at hSw)
    go_simp
    with_reducible rfl
  simp only [Act.put, List.setIfInBounds_toArray, List.set_cons_zero, List.set_cons_succ]
  refine wpAnyH_ready (rs := [19]) (by kernel_rfl) (by simp) ?_
  refine AllReadyH.cons rfl (fun K hK => ?_) AllReadyH.nil
  go_simp
  refine Calls.mono (HK2.out) ?_
  rintro e w3 ⟨rfl, hw3, hsp3⟩
  have HW3 : Hid _ := hw3
  clear hw3
  go_wp2_with fail
  refine hK.out _ _ (by exact nxs4 b2 b3 b4 b5 (Nat.ne_of_gt hg) (hsp3)) (fun hHeld => ?_)
  clear hK K
  try simp only [Act.put, List.setIfInBounds_toArray, List.set_cons_zero, List.set_cons_succ]
  refine take_to 20 (some 4) (v := ?_) rfl rfl (by kernel_rfl) (by kernel_rfl) (by kernel_rfl) (fun _ _ _ h => h) (Or.inl ⟨by rfl, ?_⟩) (by assumption) ?_
  rotate_left
  · intro w hSw
    (try dsimp only at hSw)
    go_simp
    with_reducible rfl
  simp only [Act.put, List.setIfInBounds_toArray, List.set_cons_zero, List.set_cons_succ]
  refine wpAnyH_done (by kernel_rfl) ?_ _
  refine NoPanic.normal ?_
  go_wp2
  go_ret
  exact ⟨rfl, hR.out ▸ HW3.out, HSPW.out.trans hsp3⟩

end Go.Proofs.Ytbiipnojhjhejaa

/- The contracts of slices.IndexFunc and slices.ContainsFunc at api.Region, the test the closure of flat.process.freeKey. -/
namespace Go.Proofs.Ytbiipnojhjhejaa
set_option maxRecDepth 100000
open Go.RowKit
set_option linter.unusedSimpArgs false
set_option linter.unusedVariables false

set_option maxHeartbeats 800000 in
theorem rindexF_any (caps : Array Value) (p : R6 → Bool) (v : Value) (l : List R6) (B : Nat) (w : World) (h : IsRecs encR B w v l) (hB : B ≤ 4398046511104)
    (hp : ∀ w1 x y z u c d, Below w.heap.size w w1 → Calls Try.prog 70 (#[.agg #[.int .i64 x, .int .i64 y, .int .i64 z, .int .i64 u, .bool c, .bool d]] ++ caps) w1 fun e w' => e = .returned (.bool (p (x, y, z, u, c, d))) ∧ Below w1.heap.size w1 w') :
    Calls Try.prog 85 #[v, .func (.func 70) #[] caps] w fun e w' => ∃ r : Int, e = .returned (.int .i64 r) ∧ decide (0 ≤ r) = l.any p ∧ Below w.heap.size w w' := by
  have HPP : Hid (∀ w1 x y z u c d, Below w.heap.size w w1 → Calls Try.prog 70 (#[.agg #[.int .i64 x, .int .i64 y, .int .i64 z, .int .i64 u, .bool c, .bool d]] ++ caps) w1 fun e w' => e = .returned (.bool (p (x, y, z, u, c, d))) ∧ Below w1.heap.size w1 w') := hp
  clear hp
  obtain ⟨a, cap, rfl, h1, hl, hc'⟩ := h
  obtain ⟨n, hn⟩ : ∃ n, Hid (n = l.length) := ⟨_, rfl⟩
  rw [← hn.out] at hl hc' ⊢
  go_enter Try.func85, Try.ntmps85
  go_wp2_with fail
  go_loopw [8] (fun i wr => ∃ k : Nat, k ≤ n ∧ i = .int .i64 k ∧ Hid ((l.take k).any p = false) ∧ Below w.heap.size w wr) (fun i _ => n - (intOf i).toNat)
  case atStart => exact ⟨0, Nat.zero_le _, rfl, by simp [Hid], Below.refl _ _⟩
  case round =>
    obtain ⟨k, hk, rfl, hno, hbel⟩ := hrel
    by_cases hlt : k < n
    · obtain ⟨b, off, rfl, hc⟩ := hc' (by omega)
      have hkl : k < l.length := by rw [← hn.out]; exact hlt
      have HT : Hid _ := rany_succ p l k hkl
      have HI : Hid _ := rany_found (p := p) (l := l) hkl
      obtain ⟨⟨x, y, z, u, c, d⟩, hp⟩ : ∃ q, q = l.getD k zR := ⟨_, rfl⟩
      obtain ⟨hk0, hk1, hk2, hk3, hk4, hk5⟩ := cell6 hc hbel k hkl hp
      rw [← hp] at HT HI
      clear hp hkl
      obtain ⟨T, hT⟩ : ∃ T, Hid (p (x, y, z, u, c, d) = T) := ⟨_, rfl⟩
      have HC : Hid (Calls Try.prog 70 (#[.agg #[.int .i64 x, .int .i64 y, .int .i64 z, .int .i64 u, .bool c, .bool d]] ++ caps) wr fun e w' => e = .returned (.bool T) ∧ Below wr.heap.size wr w') := by
        have := HPP.out wr x y z u c d hbel
        rw [hT.out] at this
        exact this
      rw [hT.out] at HI HT
      cases T with
      | true =>
        go_wp2_with (go_at_call 70; refine (HC.out).mono ?_; rintro e w2 ⟨rfl, hw2⟩)
        go_ret
        refine ⟨_, rfl, ?_, hbel.trans (hw2.mono hbel.size)⟩
        rw [HI.out (by first | rfl | trivial)]
        simp
      | false =>
        go_wp2_with (go_at_call 70; refine (HC.out).mono ?_; rintro e w2 ⟨rfl, hw2⟩)
        go_roundw
        case rel => exact ⟨k + 1, by omega, by go_num, by show _ = _; rw [HT.out, hno.out]; rfl, hbel.trans (hw2.mono hbel.size)⟩
        case measure => simp [intOf]; omega
    · go_wp2
      go_ret
      have := hno.out
      rw [List.take_of_length_le (by rw [← hn.out]; omega)] at this
      exact ⟨_, rfl, by rw [this]; rfl, hbel⟩

set_option maxHeartbeats 800000 in
theorem rcontainsF_any (caps : Array Value) (p : R6 → Bool) (v : Value) (l : List R6) (B : Nat) (w : World) (h : IsRecs encR B w v l) (hB : B ≤ 4398046511104)
    (hp : ∀ w1 x y z u c d, Below w.heap.size w w1 → Calls Try.prog 70 (#[.agg #[.int .i64 x, .int .i64 y, .int .i64 z, .int .i64 u, .bool c, .bool d]] ++ caps) w1 fun e w' => e = .returned (.bool (p (x, y, z, u, c, d))) ∧ Below w1.heap.size w1 w') :
    Calls Try.prog 69 #[v, .func (.func 70) #[] caps] w fun e w' => e = .returned (.bool (l.any p)) ∧ Below w.heap.size w w' := by
  have HI : Hid (Calls Try.prog 85 #[v, .func (.func 70) #[] caps] w fun e w' => ∃ r : Int, e = .returned (.int .i64 r) ∧ decide (0 ≤ r) = l.any p ∧ Below w.heap.size w w') := rindexF_any caps p v l B w h hB hp
  obtain ⟨a, cap, rfl⟩ := h.form
  generalize l.any p = R at *
  clear h hp
  go_enter Try.func69, Try.ntmps69
  go_wp2_with fail
  refine HI.out.mono ?_
  rintro e w2 ⟨i, rfl, hi, hw2⟩
  have HH : Hid _ := hi
  clear hi
  go_wp2
  go_ret
  exact ⟨ret_bool HH.out, hw2⟩

end Go.Proofs.Ytbiipnojhjhejaa

/- The contracts of flat.process.newKey, freeKey and setKey. -/
namespace Go.Proofs.Ytbiipnojhjhejaa
set_option maxRecDepth 100000
open Go.RowKit
set_option linter.unusedSimpArgs false
set_option linter.unusedVariables false

theorem k8L_kv (l : K8) : (Value.agg (k8L l).toArray) = kv l := rfl

theorem k8L_one (l : K8) : (k8L l).toArray.all (·.oneCell') = true := all_oneCell_toArray (by
  intro v hv
  simp only [k8L, List.mem_cons, List.not_mem_nil, or_false] at hv
  rcases hv with rfl | rfl | rfl | rfl | rfl | rfl | rfl | rfl <;> rfl)

theorem WOK.there {mv : Value} {base g : Nat} {w : World} {S : W4} (h : WOK mv base g w S) {o n : Nat} (ho : o + n ≤ 41) : w.there g o n := by
  obtain ⟨h1, h2, xs, h3, h4, h5⟩ := h
  intro j hj
  refine ⟨?_, h3.free _⟩
  rw [h3.cell, List.getElem?_eq_getElem (by omega)]
  rfl

set_option maxHeartbeats 1600000 in
theorem newKey_any (mv : Value) (base g : Nat) (S : W4) (k : Nat) (hk : k < 4) (w : World) (h : WOK mv base g w S) :
    Calls Try.prog 50 #[.pointer (some ⟨g, k * 10, none⟩)] w fun e w' => e = .returned (.tuple #[.int .i64 (nwN (S k).K), .int .i64 (nwE (S k).K)]) ∧ WOK mv base g w' (if nwE (S k).K = 0 then upd S k { S k with K := nwL (S k).K } else S) ∧ Spare g w w' := by
  have HW : Hid (∀ w1, Below w.heap.size w w1 → WOK mv base g w1 S) := fun w1 hb => h.below hb
  have HRG : Hid (w.rangeAt g (k * 10 + 2) (k8L (S k).K)) := h.keyRange hk
  have HN : Hid (∀ w1, Calls Try.prog 67 #[.agg (k8L (S k).K).toArray] w1 fun e w' => e = .returned (kneV (nwL (S k).K) (nwN (S k).K) (nwE (S k).K)) ∧ Below w1.heap.size w1 w') := fun w1 => new_any (S k).K w1
  have HZ : Hid (nwE (S k).K ≠ 0 → nwN (S k).K = 0) := by
    intro hz
    unfold nwE at hz
    unfold nwN
    split
    · rfl
    · rename_i h4; rw [if_neg h4] at hz; exact absurd rfl hz
  obtain ⟨R, hR⟩ : ∃ R, Hid (R = if nwE (S k).K = 0 then upd S k { S k with K := nwL (S k).K } else S) := ⟨_, rfl⟩
  rw [← hR.out]
  have HSZ : Hid ((Try.prog.info? 30).map (·.size) = some (k8L (S k).K).length) := info_keys
  have HS : Hid (∀ w2, Below w.heap.size w w2 → WOK mv base g (w2.setCells g (k * 10 + 2) (k8L (nwL (S k).K))) (upd S k { S k with K := nwL (S k).K })) := fun w2 hb => (h.below hb).setKeys hk _
  have HTH : Hid (∀ w2, Below w.heap.size w w2 → w2.there g (k * 10 + 2) 8) := fun w2 hb => (h.below hb).there (by omega)
  generalize nwE (S k).K = E at *
  generalize nwN (S k).K = N at *
  generalize nwL (S k).K = L8 at *
  obtain ⟨C, hC⟩ : ∃ C, Hid (C = k8L (S k).K) := ⟨_, rfl⟩
  rw [← hC.out] at HRG HN HSZ
  have hg := h.glt
  clear h hC
  obtain ⟨t0, d0, t1, d1, t2, d2, t3, d3⟩ := L8
  by_cases hE : E = 0
  · subst hE
    clear HZ
    go_enter Try.func50, Try.ntmps50
    go_wp2_with (first
      | (refine wpList_load_mid rfl 30 (.tmp 10) rfl g (k * 10 + 2) rfl C _ HRG.out Try.underlying30 rfl HSZ.out ?_)
      | (refine wpList_store_mid rfl 30 (.tmp 22) (.tmp 20) rfl g (k * 10 + 2) (k8L (t0, d0, t1, d1, t2, d2, t3, d3)).toArray rfl rfl (HTH.out _ (below_al hb1 _)) info_keys (k8L_one _) ?_)
      | (go_at_call 67; refine (HN.out _).mono ?_; rintro e w1 ⟨rfl, hb1⟩))
    go_ret2
    exact ⟨rfl, hR.out ▸ HS.out _ (below_al hb1 _), (Spare.of_below (below_al hb1 _)).setCells _ _⟩
  · obtain rfl := HZ.out hE
    have hd : (E != 0) = true := by simpa using hE
    clear HZ
    go_enter Try.func50, Try.ntmps50
    go_wp2_with (first
      | (refine wpList_load_mid rfl 30 (.tmp 10) rfl g (k * 10 + 2) rfl C _ HRG.out Try.underlying30 rfl HSZ.out ?_)
      | (go_at_call 67; refine (HN.out _).mono ?_; rintro e w1 ⟨rfl, hb1⟩))
    go_ret2
    have hR2 := hR.out
    rw [if_neg hE] at hR2
    rw [hR2]
    exact ⟨rfl, HW.out _ (below_al hb1 _), Spare.of_below (below_al hb1 _)⟩

set_option maxHeartbeats 400000 in
theorem freeKey1_any (B : Nat) (f t r k : Int) (g s : Bool) (key : Int) (w : World) (hc : w.cell? ⟨B, 5, none⟩ = some (.int .i64 key)) :
    Calls Try.prog 70 #[.agg #[.int .i64 f, .int .i64 t, .int .i64 r, .int .i64 k, .bool g, .bool s], .pointer (some ⟨B, 0, none⟩)] w fun e w' => e = .returned (.bool (decide (k = key))) ∧ Below w.heap.size w w' := by
  have hlt := cell_lt hc
  go_enter Try.func70, Try.ntmps70
  go_wp2
  go_ret
  refine ⟨ret_bool ?_, (Below.refl _ _).alloc (Nat.le_refl _) _⟩
  rw [Bool.eq_iff_iff]
  simp

theorem nxK {wr b : World} {P : World → Prop} (hP : ∀ b, Below wr.heap.size wr b → P b) (h : Below wr.heap.size wr b) : P b := hP b h

theorem OwnRow.all8 {w2 : World} {g : Nat} {e : TypeId} {x0 x1 x2 x3 x4 x5 x6 x7 : Value} (h : OwnRow w2 g e [x0, x1, x2, x3, x4, x5, x6, x7]) :
    ((w2.cell? ⟨g, 0, none⟩ = some x0 ∧ w2.cell? ⟨g, 1, none⟩ = some x1 ∧ w2.cell? ⟨g, 2, none⟩ = some x2 ∧ w2.cell? ⟨g, 3, none⟩ = some x3) ∧
    (w2.cell? ⟨g, 4, none⟩ = some x4 ∧ w2.cell? ⟨g, 5, none⟩ = some x5 ∧ w2.cell? ⟨g, 6, none⟩ = some x6 ∧ w2.cell? ⟨g, 7, none⟩ = some x7)) ∧
    (w2.frozen? ⟨g, 0, none⟩ = false ∧ w2.frozen? ⟨g, 1, none⟩ = false ∧ w2.frozen? ⟨g, 2, none⟩ = false ∧ w2.frozen? ⟨g, 3, none⟩ = false) ∧
    w2.frozen? ⟨g, 4, none⟩ = false ∧ w2.frozen? ⟨g, 5, none⟩ = false ∧ w2.frozen? ⟨g, 6, none⟩ = false ∧ w2.frozen? ⟨g, 7, none⟩ = false :=
  ⟨h.eight, ⟨h.free 0, h.free 1, h.free 2, h.free 3⟩, h.free 4, h.free 5, h.free 6, h.free 7⟩

set_option maxHeartbeats 3200000 in
theorem freeKey_any (mv : Value) (base g : Nat) (S : W4) (k : Nat) (hk : k < 4) (o : O12) (w : World) (h : WOK mv base g w S) (hi : Inv S) :
    Calls Try.prog 51 #[.pointer (some ⟨g, k * 10, none⟩), opV o] w fun e w' => e = .returned (.int .i64 (kfE (S k) o)) ∧ WOK mv base g w' (if kfE (S k) o = 0 then upd S k { S k with K := frL (S k).K o.key } else S) ∧ Spare g w w' := by
  have HW : Hid (∀ w1, Below w.heap.size w w1 → WOK mv base g w1 S) := fun w1 hb => h.below hb
  have HS : Hid (∀ w2, Below w.heap.size w w2 → WOK mv base g (w2.setCells g (k * 10 + 2) (k8L (frL (S k).K o.key))) (upd S k { S k with K := frL (S k).K o.key })) := fun w2 hb => (h.below hb).setKeys hk _
  have HTH : Hid (∀ w2, Below w.heap.size w w2 → w2.there g (k * 10 + 2) 8) := fun w2 hb => (h.below hb).there (by omega)
  have HKC : Hid _ := h.keys hk
  obtain ⟨a, cap, h1, h2, -⟩ := h.recs hi hk
  have HRC : Hid (∀ w1, Below w.heap.size w w1 → IsRecs encR 64 w1 (.slice a (S k).L.length cap) (S k).L ∧ w1.cell? ⟨g, k * 10 + 1, none⟩ = some (.slice a (S k).L.length cap)) := fun w1 hb => ⟨h2.below hb, (hb.cell (cell_lt h1)).trans h1⟩
  have hg := h.glt
  obtain ⟨R, hR⟩ : ∃ R, Hid (R = if kfE (S k) o = 0 then upd S k { S k with K := frL (S k).K o.key } else S) := ⟨_, rfl⟩
  rw [← hR.out]
  have HF : Hid (∀ w1, Calls Try.prog 68 #[kv (S k).K, .int .i64 o.key] w1 fun e w' => e = .returned (keV (frL (S k).K o.key) (frE (S k).K o.key)) ∧ Below w1.heap.size w1 w') := fun w1 => free_any (S k).K o.key w1
  have HE : Hid (kfE (S k) o = if frE (S k).K o.key = 0 then if heldK (S k) o.key then 7 else 0 else frE (S k).K o.key) := rfl
  have HH : Hid (∀ w1 B, Below w.heap.size w w1 → w1.cell? ⟨B, 5, none⟩ = some (.int .i64 o.key) → Calls Try.prog 69 #[.slice a (S k).L.length cap, .func (.func 70) #[] #[.pointer (some ⟨B, 0, none⟩)]] w1 fun e w' => e = .returned (.bool (heldK (S k) o.key)) ∧ Below w1.heap.size w1 w') := fun w1 B hb hc =>
    rcontainsF_any #[.pointer (some ⟨B, 0, none⟩)] (fun x => decide (x.2.2.2.1 = o.key)) _ _ 64 w1 (HRC.out _ hb).1 (by decide) (fun w2 f t r k g s hb2 => freeKey1_any B f t r k g s o.key w2 ((hb2.cell (cell_lt hc)).trans hc))
  have HR2 : Hid (R = if kfE (S k) o = 0 then upd S k { S k with K := frL (S k).K o.key } else S) := hR.out
  generalize kfE (S k) o = F at *
  generalize heldK (S k) o.key = D at *
  obtain ⟨S2, hS2⟩ : ∃ S2, S2 = upd S k { S k with K := frL (S k).K o.key } := ⟨_, rfl⟩
  rw [← hS2] at HR2 HS
  clear hR hS2
  generalize (S k).L.length = m at *
  generalize (S k).K = K at *
  obtain ⟨t0, d0, t1, d1, t2, d2, t3, d3⟩ := K
  obtain ⟨kind, proc, page, count, rights, key, tagged, draw, addr, size, value, tag⟩ := o
  simp only at HF HKC HE HS HR2 ⊢
  generalize frE (t0, d0, t1, d1, t2, d2, t3, d3) key = G at *
  generalize frL (t0, d0, t1, d1, t2, d2, t3, d3) key = L8 at *
  obtain ⟨t4, d4, t5, d5, t6, d6, t7, d7⟩ := L8
  have hbA : Below w.heap.size w (w.alloc (.cells #[.int .i64 kind, .int .i64 proc, .int .i64 page, .int .i64 count, .int .i64 rights, .int .i64 key, .bool tagged, .int .i64 draw, .int .i64 addr, .int .i64 size, .int .i64 value, .int .i64 tag] 24)) := (Below.refl _ _).alloc (Nat.le_refl _) _
  have hoA : OwnRow (w.alloc (.cells #[.int .i64 kind, .int .i64 proc, .int .i64 page, .int .i64 count, .int .i64 rights, .int .i64 key, .bool tagged, .int .i64 draw, .int .i64 addr, .int .i64 size, .int .i64 value, .int .i64 tag] 24)) w.heap.size 24 [.int .i64 kind, .int .i64 proc, .int .i64 page, .int .i64 count, .int .i64 rights, .int .i64 key, .bool tagged, .int .i64 draw, .int .i64 addr, .int .i64 size, .int .i64 value, .int .i64 tag] := heap_alloc_new w _
  clear h h1 h2 hi
  go_enter Try.func51, Try.ntmps51
  go_wp2_with fail
  generalize (w.alloc (.cells #[.int .i64 kind, .int .i64 proc, .int .i64 page, .int .i64 count, .int .i64 rights, .int .i64 key, .bool tagged, .int .i64 draw, .int .i64 addr, .int .i64 size, .int .i64 value, .int .i64 tag] 24)) = wo at hbA hoA ⊢
  have hlt := hoA.lt
  have HNX : Hid (∀ w', Below wo.heap.size wo w' → w'.cell? ⟨g, k * 10 + 2, none⟩ = some (.bool t0) ∧ w'.cell? ⟨g, k * 10 + 2 + 1, none⟩ = some (.int .i64 d0) ∧ w'.cell? ⟨g, k * 10 + 2 + 2, none⟩ = some (.bool t1) ∧ w'.cell? ⟨g, k * 10 + 2 + 3, none⟩ = some (.int .i64 d1) ∧ w'.cell? ⟨g, k * 10 + 2 + 4, none⟩ = some (.bool t2) ∧ w'.cell? ⟨g, k * 10 + 2 + 5, none⟩ = some (.int .i64 d2) ∧ w'.cell? ⟨g, k * 10 + 2 + 6, none⟩ = some (.bool t3) ∧ w'.cell? ⟨g, k * 10 + 2 + 7, none⟩ = some (.int .i64 d3) ∧ w'.cell? ⟨w.heap.size, 5, none⟩ = some (.int .i64 key) ∧ w'.cell? ⟨g, k * 10 + 1, none⟩ = some (.slice a m cap) ∧ Below wo.heap.size wo w') := fun w' hb => by
    obtain ⟨⟨c0, c1, c2, c3⟩, c4, c5, c6, c7⟩ := HKC.out
    have hbw := hbA.trans (hb.mono hbA.size)
    have go : ∀ {A : Addr} {v : Value}, w.cell? A = some v → w'.cell? A = some v := fun hc => (hbw.cell (cell_lt hc)).trans hc
    have ho := hoA.below hb hoA.lt
    exact ⟨go c0, go c1, go c2, go c3, go c4, go c5, go c6, go c7, by rw [ho.cell]; rfl, (HRC.out _ hbw).2, hb⟩
  have HF2 : Hid (∀ w1, Below wo.heap.size wo w1 → Calls Try.prog 68 #[.agg #[.bool t0, .int .i64 d0, .bool t1, .int .i64 d1, .bool t2, .int .i64 d2, .bool t3, .int .i64 d3], .int .i64 key] w1 fun e w' => e = .returned (keV (t4, d4, t5, d5, t6, d6, t7, d7) G) ∧ Below wo.heap.size wo w' ∧ Below w1.heap.size w1 w') := fun w1 hb => by
    refine (HF.out w1).mono ?_
    rintro e w2 ⟨he, hb2⟩
    exact ⟨he, hb.trans (hb2.mono hb.size), hb2⟩
  have HBA : Hid (Below w.heap.size w wo) := hbA
  have HOA : Hid (OwnRow wo w.heap.size 24 [.int .i64 kind, .int .i64 proc, .int .i64 page, .int .i64 count, .int .i64 rights, .int .i64 key, .bool tagged, .int .i64 draw, .int .i64 addr, .int .i64 size, .int .i64 value, .int .i64 tag]) := hoA
  clear hoA hbA HF HKC
  refine wp_region_noPanic ?_
  refine wp_region_held_drew (S := (fun w' => w'.cell? ⟨g, k * 10 + 2, none⟩ = some (.bool t0) ∧ w'.cell? ⟨g, k * 10 + 2 + 1, none⟩ = some (.int .i64 d0) ∧ w'.cell? ⟨g, k * 10 + 2 + 2, none⟩ = some (.bool t1) ∧ w'.cell? ⟨g, k * 10 + 2 + 3, none⟩ = some (.int .i64 d1) ∧ w'.cell? ⟨g, k * 10 + 2 + 4, none⟩ = some (.bool t2) ∧ w'.cell? ⟨g, k * 10 + 2 + 5, none⟩ = some (.int .i64 d2) ∧ w'.cell? ⟨g, k * 10 + 2 + 6, none⟩ = some (.bool t3) ∧ w'.cell? ⟨g, k * 10 + 2 + 7, none⟩ = some (.int .i64 d3) ∧ w'.cell? ⟨w.heap.size, 5, none⟩ = some (.int .i64 key) ∧ w'.cell? ⟨g, k * 10 + 1, none⟩ = some (.slice a m cap) ∧ Below wo.heap.size wo w')) (by kernel_rfl) (HNX.out _ (Below.refl _ _).drew) (fun hHeld => ?_)
  refine take_to 0 (some 8) (v := ?_) rfl rfl (by kernel_rfl) (by kernel_rfl) (by kernel_rfl) (fun _ _ _ h => h) (Or.inl ⟨by rfl, ?_⟩) (by assumption) ?_
  rotate_left
  · intro w hSw
    (try dsimp only at hSw)
    go_simp
    with_reducible rfl
  simp only [Act.put, List.setIfInBounds_toArray, List.set_cons_zero, List.set_cons_succ]
  refine take_to 1 (some 9) (v := ?_) rfl rfl (by kernel_rfl) (by kernel_rfl) (by kernel_rfl) (fun _ _ _ h => h) (Or.inl ⟨by rfl, ?_⟩) (by assumption) ?_
  rotate_left
  · intro w hSw
    (try dsimp only at hSw)
    go_simp
    with_reducible rfl
  simp only [Act.put, List.setIfInBounds_toArray, List.set_cons_zero, List.set_cons_succ]
  refine take_to 2 (some 10) (v := ?_) rfl rfl (by kernel_rfl) (by kernel_rfl) (by kernel_rfl) (fun _ _ _ h => h) (Or.inl ⟨by rfl, ?_⟩) (by assumption) ?_
  rotate_left
  · intro w hSw
    (try dsimp only at hSw)
    go_simp
    with_reducible rfl
  simp only [Act.put, List.setIfInBounds_toArray, List.set_cons_zero, List.set_cons_succ]
  refine take_to 3 (some 11) (v := ?_) rfl rfl (by kernel_rfl) (by kernel_rfl) (by kernel_rfl) (fun _ _ _ h => h) (Or.inl ⟨by rfl, ?_⟩) (by assumption) ?_
  rotate_left
  · intro w hSw
    (try dsimp only at hSw)
    go_simp
    with_reducible rfl
  simp only [Act.put, List.setIfInBounds_toArray, List.set_cons_zero, List.set_cons_succ]
  refine take_to 4 (some 12) (v := ?_) rfl rfl (by kernel_rfl) (by kernel_rfl) (by kernel_rfl) (fun _ _ _ h => h) (Or.inl ⟨by rfl, ?_⟩) (by assumption) ?_
  rotate_left
  · intro w hSw
    (try dsimp only at hSw)
    go_simp
    with_reducible rfl
  simp only [Act.put, List.setIfInBounds_toArray, List.set_cons_zero, List.set_cons_succ]
  refine take_to 5 (some 13) (v := ?_) rfl rfl (by kernel_rfl) (by kernel_rfl) (by kernel_rfl) (fun _ _ _ h => h) (Or.inl ⟨by rfl, ?_⟩) (by assumption) ?_
  rotate_left
  · intro w hSw
    (try dsimp only at hSw)
    go_simp
    with_reducible rfl
  simp only [Act.put, List.setIfInBounds_toArray, List.set_cons_zero, List.set_cons_succ]
  refine wpAnyH_ready (rs := [6, 10]) (by kernel_rfl) (by simp) ?_
  refine AllReadyH.cons rfl (fun K hK => ?_) (AllReadyH.cons rfl (fun K hK => ?_) AllReadyH.nil)
  · go_simp
    refine Calls.mono (HF2.out _ (Below.refl _ _).drew) ?_
    rintro e w2 ⟨rfl, hbw2, hw2⟩
    go_wp2_with fail
    refine hK.out _ _ (HNX.out _ hbw2) (fun hHeld => ?_)
    clear hK K
    try simp only [Act.put, List.setIfInBounds_toArray, List.set_cons_zero, List.set_cons_succ]
    refine take_to 7 (some 7) (v := ?_) rfl rfl (by kernel_rfl) (by kernel_rfl) (by kernel_rfl) (fun _ _ _ h => h) (Or.inl ⟨by rfl, ?_⟩) (by assumption) ?_
    rotate_left
    · intro w hSw
      (try dsimp only at hSw)
      go_simp
      with_reducible rfl
    simp only [Act.put, List.setIfInBounds_toArray, List.set_cons_zero, List.set_cons_succ]
    refine take_to 8 (some 15) (v := ?_) rfl rfl (by kernel_rfl) (by kernel_rfl) (by kernel_rfl) (fun _ _ _ h => h) (Or.inl ⟨by rfl, ?_⟩) (by assumption) ?_
    rotate_left
    · intro w hSw
      (try dsimp only at hSw)
      go_simp
      with_reducible rfl
    simp only [Act.put, List.setIfInBounds_toArray, List.set_cons_zero, List.set_cons_succ]
    refine take_to 9 (some 16) (v := ?_) rfl rfl (by kernel_rfl) (by kernel_rfl) (by kernel_rfl) (fun _ _ _ h => h) (Or.inl ⟨by rfl, ?_⟩) (by assumption) ?_
    rotate_left
    · intro w hSw
      (try dsimp only at hSw)
      go_simp
      with_reducible rfl
    simp only [Act.put, List.setIfInBounds_toArray, List.set_cons_zero, List.set_cons_succ]
    refine wpAnyH_ready (rs := [10]) (by kernel_rfl) (by simp) ?_
    refine AllReadyH.cons rfl (fun K hK => ?_) AllReadyH.nil
    go_simp
    refine hK.out _ _ (HNX.out _ (hbw2.alloc hbw2.size _)) (fun hHeld => ?_)
    clear hK K
    try simp only [Act.put, List.setIfInBounds_toArray, List.set_cons_zero, List.set_cons_succ]
    refine wpAnyH_ready (rs := [11]) (by kernel_rfl) (by simp) ?_
    refine AllReadyH.cons rfl (fun K hK => ?_) AllReadyH.nil
    go_simp
    refine hK.out _ _ (HNX.out _ (hbw2.alloc hbw2.size _)) (fun hHeld => ?_)
    clear hK K
    try simp only [Act.put, List.setIfInBounds_toArray, List.set_cons_zero, List.set_cons_succ]
    refine take_to 12 (some 6) (v := ?_) rfl rfl (by kernel_rfl) (by kernel_rfl) (by kernel_rfl) (fun _ _ _ h => h) (Or.inl ⟨by rfl, ?_⟩) (by assumption) ?_
    rotate_left
    · intro w hSw
      (try dsimp only at hSw)
      go_simp
      with_reducible rfl
    simp only [Act.put, List.setIfInBounds_toArray, List.set_cons_zero, List.set_cons_succ]
    refine wpAnyH_done (by kernel_rfl) ?_ _
    refine NoPanic.normal ?_
    have hb3 : Below wo.heap.size wo (w2.alloc (.cells (k8L (t4, d4, t5, d5, t6, d6, t7, d7)).toArray 30)) := hbw2.alloc hbw2.size _
    have ho3 : OwnRow (w2.alloc (.cells (k8L (t4, d4, t5, d5, t6, d6, t7, d7)).toArray 30)) w2.heap.size 30 (k8L (t4, d4, t5, d5, t6, d6, t7, d7)) := heap_alloc_new w2 _
    have hbw3 := HBA.out.trans (hb3.mono HBA.out.size)
    have hq5 := (HNX.out _ hb3).2.2.2.2.2.2.2.2.1
    have hc1 := (HRC.out _ hbw3).2
    clear HNX HF2
    change Exit.then _ _ _ _ (w2.alloc (.cells (k8L (t4, d4, t5, d5, t6, d6, t7, d7)).toArray 30))
    generalize (w2.alloc (.cells (k8L (t4, d4, t5, d5, t6, d6, t7, d7)).toArray 30)) = w3 at hb3 ho3 hbw3 hq5 hc1 ⊢
    have hlt3 := ho3.lt
    obtain ⟨⟨z0, z1, z2, z3⟩, z4, z5, z6, z7⟩ := ho3.eight
    by_cases hG : G = 0
    · subst hG
      cases D
      · obtain rfl : F = 0 := HE.out
        go_wp2_with (first
          | (go_at_call 69; refine (HH.out _ _ hbw3 hq5).mono ?_; rintro e w4 ⟨rfl, hb4⟩; have hbw4 := hbw3.trans (hb4.mono hbw3.size); obtain ⟨⟨u0, u1, u2, u3⟩, u4, u5, u6, u7⟩ := (ho3.below hb4 ho3.lt).eight)
          | (refine wpList_store_mid rfl 30 (.tmp 29) (.tmp 27) rfl g (k * 10 + 2) (k8L (t4, d4, t5, d5, t6, d6, t7, d7)).toArray rfl rfl (HTH.out _ hbw4) info_keys (k8L_one _) ?_))
        go_ret
        exact ⟨rfl, HR2.out ▸ HS.out _ hbw4, (Spare.of_below hbw4).setCells _ _⟩
      · obtain rfl : F = 7 := HE.out
        go_wp2_with (first
          | (go_at_call 69; refine (HH.out _ _ hbw3 hq5).mono ?_; rintro e w4 ⟨rfl, hb4⟩; have hbw4 := hbw3.trans (hb4.mono hbw3.size)))
        go_ret
        exact ⟨rfl, HR2.out ▸ HW.out _ hbw4, Spare.of_below hbw4⟩
    · obtain rfl : F = G := HE.out.trans (if_neg hG)
      have hd : (F != 0) = true := by simpa using hG
      have hR3 := HR2.out
      rw [if_neg hG] at hR3
      go_wp2
      go_ret
      (try rw [hR3])
      exact ⟨rfl, HW.out _ hbw3, Spare.of_below hbw3⟩
  · go_simp
    refine hK.out _ _ (HNX.out _ (((Below.refl _ _).drew).alloc (Nat.le_refl _) _)) (fun hHeld => ?_)
    clear hK K
    try simp only [Act.put, List.setIfInBounds_toArray, List.set_cons_zero, List.set_cons_succ]
    refine wpAnyH_ready (rs := [6]) (by kernel_rfl) (by simp) ?_
    refine AllReadyH.cons rfl (fun K hK => ?_) AllReadyH.nil
    go_simp
    refine Calls.mono (HF2.out _ (((Below.refl _ _).drew).alloc (Nat.le_refl _) _)) ?_
    rintro e w2 ⟨rfl, hbw2, hw2⟩
    go_wp2_with fail
    refine hK.out _ _ (HNX.out _ hbw2) (fun hHeld => ?_)
    clear hK K
    try simp only [Act.put, List.setIfInBounds_toArray, List.set_cons_zero, List.set_cons_succ]
    have hX : OwnRow w2 wo.heap.size 30 [.bool false, .int .i64 0, .bool false, .int .i64 0, .bool false, .int .i64 0, .bool false, .int .i64 0] := own_drew hw2
    have hY : w2.there wo.heap.size 0 8 := fun j hj => ⟨by rw [hX.cell, List.getElem?_eq_getElem (by simpa using hj)]; rfl, hX.free _⟩
    refine take_to 7 (some 7) (v := ?_) rfl rfl (by kernel_rfl) (by kernel_rfl) (by kernel_rfl) (fun _ _ _ h => h) (Or.inl ⟨by rfl, ?_⟩) (by assumption) ?_
    rotate_left
    · intro w hSw
      (try dsimp only at hSw)
      go_simp
      with_reducible rfl
    simp only [Act.put, List.setIfInBounds_toArray, List.set_cons_zero, List.set_cons_succ]
    refine take_to 8 (some 15) (v := ?_) rfl rfl (by kernel_rfl) (by kernel_rfl) (by kernel_rfl) (fun _ _ _ h => h) (Or.inl ⟨by rfl, ?_⟩) (by assumption) ?_
    rotate_left
    · intro w hSw
      (try dsimp only at hSw)
      go_simp
      with_reducible rfl
    simp only [Act.put, List.setIfInBounds_toArray, List.set_cons_zero, List.set_cons_succ]
    refine take_to 9 (some 16) (v := ?_) rfl rfl (by kernel_rfl) (by kernel_rfl) (by kernel_rfl) (fun _ _ _ h => h) (Or.inl ⟨by rfl, ?_⟩) (by assumption) ?_
    rotate_left
    · intro w hSw
      (try dsimp only at hSw)
      go_simp
      with_reducible rfl
    simp only [Act.put, List.setIfInBounds_toArray, List.set_cons_zero, List.set_cons_succ]
    refine wpAnyH_ready (rs := [11]) (by kernel_rfl) (by simp) ?_
    refine AllReadyH.cons rfl (fun K hK => ?_) AllReadyH.nil
    rw [if_pos (by rfl)]
    refine wp_store_mid _ _ _ rfl wo.heap.size 0 (k8L (t4, d4, t5, d5, t6, d6, t7, d7)).toArray rfl rfl hY info_keys (k8L_one _) ?_
    refine hK.out _ _ (HNX.out _ (below_setCells (Nat.le_refl _) _ _ _ _ hbw2)) (fun hHeld => ?_)
    clear hK K
    try simp only [Act.put, List.setIfInBounds_toArray, List.set_cons_zero, List.set_cons_succ]
    refine take_to 12 (some 6) (v := ?_) rfl rfl (by kernel_rfl) (by kernel_rfl) (by kernel_rfl) (fun _ _ _ h => h) (Or.inl ⟨by rfl, ?_⟩) (by assumption) ?_
    rotate_left
    · intro w hSw
      (try dsimp only at hSw)
      go_simp
      with_reducible rfl
    simp only [Act.put, List.setIfInBounds_toArray, List.set_cons_zero, List.set_cons_succ]
    refine wpAnyH_done (by kernel_rfl) ?_ _
    refine NoPanic.normal ?_
    have hb3 : Below wo.heap.size wo (w2.setCells wo.heap.size 0 (k8L (t4, d4, t5, d5, t6, d6, t7, d7))) := below_setCells (Nat.le_refl _) _ _ _ _ hbw2
    have ho3 : OwnRow (w2.setCells wo.heap.size 0 (k8L (t4, d4, t5, d5, t6, d6, t7, d7))) wo.heap.size 30 (k8L (t4, d4, t5, d5, t6, d6, t7, d7)) := hX.setCells (k8L (t4, d4, t5, d5, t6, d6, t7, d7)) 0 _ _ (Nat.le_refl _)
    have hbw3 := HBA.out.trans (hb3.mono HBA.out.size)
    have hq5 := (HNX.out _ hb3).2.2.2.2.2.2.2.2.1
    have hc1 := (HRC.out _ hbw3).2
    clear HNX HF2
    change Exit.then _ _ _ _ (w2.setCells wo.heap.size 0 (k8L (t4, d4, t5, d5, t6, d6, t7, d7)))
    generalize (w2.setCells wo.heap.size 0 (k8L (t4, d4, t5, d5, t6, d6, t7, d7))) = w3 at hb3 ho3 hbw3 hq5 hc1 ⊢
    have hlt3 := ho3.lt
    obtain ⟨⟨z0, z1, z2, z3⟩, z4, z5, z6, z7⟩ := ho3.eight
    by_cases hG : G = 0
    · subst hG
      cases D
      · obtain rfl : F = 0 := HE.out
        go_wp2_with (first
          | (go_at_call 69; refine (HH.out _ _ hbw3 hq5).mono ?_; rintro e w4 ⟨rfl, hb4⟩; have hbw4 := hbw3.trans (hb4.mono hbw3.size); obtain ⟨⟨u0, u1, u2, u3⟩, u4, u5, u6, u7⟩ := (ho3.below hb4 ho3.lt).eight)
          | (refine wpList_store_mid rfl 30 (.tmp 29) (.tmp 27) rfl g (k * 10 + 2) (k8L (t4, d4, t5, d5, t6, d6, t7, d7)).toArray rfl rfl (HTH.out _ hbw4) info_keys (k8L_one _) ?_))
        go_ret
        exact ⟨rfl, HR2.out ▸ HS.out _ hbw4, (Spare.of_below hbw4).setCells _ _⟩
      · obtain rfl : F = 7 := HE.out
        go_wp2_with (first
          | (go_at_call 69; refine (HH.out _ _ hbw3 hq5).mono ?_; rintro e w4 ⟨rfl, hb4⟩; have hbw4 := hbw3.trans (hb4.mono hbw3.size)))
        go_ret
        exact ⟨rfl, HR2.out ▸ HW.out _ hbw4, Spare.of_below hbw4⟩
    · obtain rfl : F = G := HE.out.trans (if_neg hG)
      have hd : (F != 0) = true := by simpa using hG
      have hR3 := HR2.out
      rw [if_neg hG] at hR3
      go_wp2
      go_ret
      (try rw [hR3])
      exact ⟨rfl, HW.out _ hbw3, Spare.of_below hbw3⟩

set_option maxHeartbeats 3200000 in
theorem setKey_any (mv : Value) (base g : Nat) (S : W4) (k : Nat) (hk : k < 4) (o : O12) (w : World) (h : WOK mv base g w S) (hi : Inv S) :
    Calls Try.prog 52 #[.pointer (some ⟨g, k * 10, none⟩), opV o] w fun e w' => e = .returned (.int .i64 (stE (S k).K o.key o.rights)) ∧ WOK mv base g w' (if stE (S k).K o.key o.rights = 0 then upd S k { S k with K := stL (S k).K o.key o.rights } else S) ∧ Spare g w w' := by
  have HW : Hid (∀ w1, Below w.heap.size w w1 → WOK mv base g w1 S) := fun w1 hb => h.below hb
  have HS : Hid (∀ w2, Below w.heap.size w w2 → WOK mv base g (w2.setCells g (k * 10 + 2) (k8L (stL (S k).K o.key o.rights))) (upd S k { S k with K := stL (S k).K o.key o.rights })) := fun w2 hb => (h.below hb).setKeys hk _
  have HTH : Hid (∀ w2, Below w.heap.size w w2 → w2.there g (k * 10 + 2) 8) := fun w2 hb => (h.below hb).there (by omega)
  have HKC : Hid _ := h.keys hk
  obtain ⟨a, cap, h1, h2, -⟩ := h.recs hi hk
  have HRC : Hid (∀ w1, Below w.heap.size w w1 → IsRecs encR 64 w1 (.slice a (S k).L.length cap) (S k).L ∧ w1.cell? ⟨g, k * 10 + 1, none⟩ = some (.slice a (S k).L.length cap)) := fun w1 hb => ⟨h2.below hb, (hb.cell (cell_lt h1)).trans h1⟩
  have hg := h.glt
  obtain ⟨R, hR⟩ : ∃ R, Hid (R = if stE (S k).K o.key o.rights = 0 then upd S k { S k with K := stL (S k).K o.key o.rights } else S) := ⟨_, rfl⟩
  rw [← hR.out]
  have HF : Hid (∀ w1, Calls Try.prog 71 #[kv (S k).K, .int .i64 o.key, .int .i64 o.rights] w1 fun e w' => e = .returned (keV (stL (S k).K o.key o.rights) (stE (S k).K o.key o.rights)) ∧ Below w1.heap.size w1 w') := fun w1 => set_any (S k).K o.key o.rights w1
  have HE : Hid True := trivial
  have HR2 : Hid (R = if stE (S k).K o.key o.rights = 0 then upd S k { S k with K := stL (S k).K o.key o.rights } else S) := hR.out
  obtain ⟨S2, hS2⟩ : ∃ S2, S2 = upd S k { S k with K := stL (S k).K o.key o.rights } := ⟨_, rfl⟩
  rw [← hS2] at HR2 HS
  clear hR hS2
  generalize (S k).L.length = m at *
  generalize (S k).K = K at *
  obtain ⟨t0, d0, t1, d1, t2, d2, t3, d3⟩ := K
  obtain ⟨kind, proc, page, count, rights, key, tagged, draw, addr, size, value, tag⟩ := o
  simp only at HF HKC HE HS HR2 ⊢
  generalize stE (t0, d0, t1, d1, t2, d2, t3, d3) key rights = E at *
  generalize stL (t0, d0, t1, d1, t2, d2, t3, d3) key rights = L8 at *
  obtain ⟨t4, d4, t5, d5, t6, d6, t7, d7⟩ := L8
  have hbA : Below w.heap.size w (w.alloc (.cells #[.int .i64 kind, .int .i64 proc, .int .i64 page, .int .i64 count, .int .i64 rights, .int .i64 key, .bool tagged, .int .i64 draw, .int .i64 addr, .int .i64 size, .int .i64 value, .int .i64 tag] 24)) := (Below.refl _ _).alloc (Nat.le_refl _) _
  have hoA : OwnRow (w.alloc (.cells #[.int .i64 kind, .int .i64 proc, .int .i64 page, .int .i64 count, .int .i64 rights, .int .i64 key, .bool tagged, .int .i64 draw, .int .i64 addr, .int .i64 size, .int .i64 value, .int .i64 tag] 24)) w.heap.size 24 [.int .i64 kind, .int .i64 proc, .int .i64 page, .int .i64 count, .int .i64 rights, .int .i64 key, .bool tagged, .int .i64 draw, .int .i64 addr, .int .i64 size, .int .i64 value, .int .i64 tag] := heap_alloc_new w _
  clear h h1 h2 hi
  go_enter Try.func52, Try.ntmps52
  go_wp2_with fail
  generalize (w.alloc (.cells #[.int .i64 kind, .int .i64 proc, .int .i64 page, .int .i64 count, .int .i64 rights, .int .i64 key, .bool tagged, .int .i64 draw, .int .i64 addr, .int .i64 size, .int .i64 value, .int .i64 tag] 24)) = wo at hbA hoA ⊢
  have hlt := hoA.lt
  have HNX : Hid (∀ w', Below wo.heap.size wo w' → w'.cell? ⟨g, k * 10 + 2, none⟩ = some (.bool t0) ∧ w'.cell? ⟨g, k * 10 + 2 + 1, none⟩ = some (.int .i64 d0) ∧ w'.cell? ⟨g, k * 10 + 2 + 2, none⟩ = some (.bool t1) ∧ w'.cell? ⟨g, k * 10 + 2 + 3, none⟩ = some (.int .i64 d1) ∧ w'.cell? ⟨g, k * 10 + 2 + 4, none⟩ = some (.bool t2) ∧ w'.cell? ⟨g, k * 10 + 2 + 5, none⟩ = some (.int .i64 d2) ∧ w'.cell? ⟨g, k * 10 + 2 + 6, none⟩ = some (.bool t3) ∧ w'.cell? ⟨g, k * 10 + 2 + 7, none⟩ = some (.int .i64 d3) ∧ w'.cell? ⟨w.heap.size, 5, none⟩ = some (.int .i64 key) ∧ w'.cell? ⟨w.heap.size, 4, none⟩ = some (.int .i64 rights) ∧ w'.cell? ⟨g, k * 10 + 1, none⟩ = some (.slice a m cap) ∧ Below wo.heap.size wo w') := fun w' hb => by
    obtain ⟨⟨c0, c1, c2, c3⟩, c4, c5, c6, c7⟩ := HKC.out
    have hbw := hbA.trans (hb.mono hbA.size)
    have go : ∀ {A : Addr} {v : Value}, w.cell? A = some v → w'.cell? A = some v := fun hc => (hbw.cell (cell_lt hc)).trans hc
    have ho := hoA.below hb hoA.lt
    exact ⟨go c0, go c1, go c2, go c3, go c4, go c5, go c6, go c7, by rw [ho.cell]; rfl, by rw [ho.cell]; rfl, (HRC.out _ hbw).2, hb⟩
  have HF2 : Hid (∀ w1, Below wo.heap.size wo w1 → Calls Try.prog 71 #[.agg #[.bool t0, .int .i64 d0, .bool t1, .int .i64 d1, .bool t2, .int .i64 d2, .bool t3, .int .i64 d3], .int .i64 key, .int .i64 rights] w1 fun e w' => e = .returned (keV (t4, d4, t5, d5, t6, d6, t7, d7) E) ∧ Below wo.heap.size wo w' ∧ Below w1.heap.size w1 w') := fun w1 hb => by
    refine (HF.out w1).mono ?_
    rintro e w2 ⟨he, hb2⟩
    exact ⟨he, hb.trans (hb2.mono hb.size), hb2⟩
  have HBA : Hid (Below w.heap.size w wo) := hbA
  have HOA : Hid (OwnRow wo w.heap.size 24 [.int .i64 kind, .int .i64 proc, .int .i64 page, .int .i64 count, .int .i64 rights, .int .i64 key, .bool tagged, .int .i64 draw, .int .i64 addr, .int .i64 size, .int .i64 value, .int .i64 tag]) := hoA
  clear hoA hbA HF HKC
  refine wp_region_noPanic ?_
  refine wp_region_held_drew (S := (fun w' => w'.cell? ⟨g, k * 10 + 2, none⟩ = some (.bool t0) ∧ w'.cell? ⟨g, k * 10 + 2 + 1, none⟩ = some (.int .i64 d0) ∧ w'.cell? ⟨g, k * 10 + 2 + 2, none⟩ = some (.bool t1) ∧ w'.cell? ⟨g, k * 10 + 2 + 3, none⟩ = some (.int .i64 d1) ∧ w'.cell? ⟨g, k * 10 + 2 + 4, none⟩ = some (.bool t2) ∧ w'.cell? ⟨g, k * 10 + 2 + 5, none⟩ = some (.int .i64 d2) ∧ w'.cell? ⟨g, k * 10 + 2 + 6, none⟩ = some (.bool t3) ∧ w'.cell? ⟨g, k * 10 + 2 + 7, none⟩ = some (.int .i64 d3) ∧ w'.cell? ⟨w.heap.size, 5, none⟩ = some (.int .i64 key) ∧ w'.cell? ⟨w.heap.size, 4, none⟩ = some (.int .i64 rights) ∧ w'.cell? ⟨g, k * 10 + 1, none⟩ = some (.slice a m cap) ∧ Below wo.heap.size wo w')) (by kernel_rfl) (HNX.out _ (Below.refl _ _).drew) (fun hHeld => ?_)
  refine take_to 0 (some 8) (v := ?_) rfl rfl (by kernel_rfl) (by kernel_rfl) (by kernel_rfl) (fun _ _ _ h => h) (Or.inl ⟨by rfl, ?_⟩) (by assumption) ?_
  rotate_left
  · intro w hSw
    (try dsimp only at hSw)
    go_simp
    with_reducible rfl
  simp only [Act.put, List.setIfInBounds_toArray, List.set_cons_zero, List.set_cons_succ]
  refine take_to 1 (some 9) (v := ?_) rfl rfl (by kernel_rfl) (by kernel_rfl) (by kernel_rfl) (fun _ _ _ h => h) (Or.inl ⟨by rfl, ?_⟩) (by assumption) ?_
  rotate_left
  · intro w hSw
    (try dsimp only at hSw)
    go_simp
    with_reducible rfl
  simp only [Act.put, List.setIfInBounds_toArray, List.set_cons_zero, List.set_cons_succ]
  refine take_to 2 (some 10) (v := ?_) rfl rfl (by kernel_rfl) (by kernel_rfl) (by kernel_rfl) (fun _ _ _ h => h) (Or.inl ⟨by rfl, ?_⟩) (by assumption) ?_
  rotate_left
  · intro w hSw
    (try dsimp only at hSw)
    go_simp
    with_reducible rfl
  simp only [Act.put, List.setIfInBounds_toArray, List.set_cons_zero, List.set_cons_succ]
  refine take_to 3 (some 11) (v := ?_) rfl rfl (by kernel_rfl) (by kernel_rfl) (by kernel_rfl) (fun _ _ _ h => h) (Or.inl ⟨by rfl, ?_⟩) (by assumption) ?_
  rotate_left
  · intro w hSw
    (try dsimp only at hSw)
    go_simp
    with_reducible rfl
  simp only [Act.put, List.setIfInBounds_toArray, List.set_cons_zero, List.set_cons_succ]
  refine take_to 4 (some 12) (v := ?_) rfl rfl (by kernel_rfl) (by kernel_rfl) (by kernel_rfl) (fun _ _ _ h => h) (Or.inl ⟨by rfl, ?_⟩) (by assumption) ?_
  rotate_left
  · intro w hSw
    (try dsimp only at hSw)
    go_simp
    with_reducible rfl
  simp only [Act.put, List.setIfInBounds_toArray, List.set_cons_zero, List.set_cons_succ]
  refine take_to 5 (some 13) (v := ?_) rfl rfl (by kernel_rfl) (by kernel_rfl) (by kernel_rfl) (fun _ _ _ h => h) (Or.inl ⟨by rfl, ?_⟩) (by assumption) ?_
  rotate_left
  · intro w hSw
    (try dsimp only at hSw)
    go_simp
    with_reducible rfl
  simp only [Act.put, List.setIfInBounds_toArray, List.set_cons_zero, List.set_cons_succ]
  refine take_to 6 (some 14) (v := ?_) rfl rfl (by kernel_rfl) (by kernel_rfl) (by kernel_rfl) (fun _ _ _ h => h) (Or.inl ⟨by rfl, ?_⟩) (by assumption) ?_
  rotate_left
  · intro w hSw
    (try dsimp only at hSw)
    go_simp
    with_reducible rfl
  simp only [Act.put, List.setIfInBounds_toArray, List.set_cons_zero, List.set_cons_succ]
  refine take_to 7 (some 15) (v := ?_) rfl rfl (by kernel_rfl) (by kernel_rfl) (by kernel_rfl) (fun _ _ _ h => h) (Or.inl ⟨by rfl, ?_⟩) (by assumption) ?_
  rotate_left
  · intro w hSw
    (try dsimp only at hSw)
    go_simp
    with_reducible rfl
  simp only [Act.put, List.setIfInBounds_toArray, List.set_cons_zero, List.set_cons_succ]
  refine wpAnyH_ready (rs := [8, 12]) (by kernel_rfl) (by simp) ?_
  refine AllReadyH.cons rfl (fun K hK => ?_) (AllReadyH.cons rfl (fun K hK => ?_) AllReadyH.nil)
  · go_simp
    refine Calls.mono (HF2.out _ (Below.refl _ _).drew) ?_
    rintro e w2 ⟨rfl, hbw2, hw2⟩
    go_wp2_with fail
    refine hK.out _ _ (HNX.out _ hbw2) (fun hHeld => ?_)
    clear hK K
    try simp only [Act.put, List.setIfInBounds_toArray, List.set_cons_zero, List.set_cons_succ]
    refine take_to 9 (some 7) (v := ?_) rfl rfl (by kernel_rfl) (by kernel_rfl) (by kernel_rfl) (fun _ _ _ h => h) (Or.inl ⟨by rfl, ?_⟩) (by assumption) ?_
    rotate_left
    · intro w hSw
      (try dsimp only at hSw)
      go_simp
      with_reducible rfl
    simp only [Act.put, List.setIfInBounds_toArray, List.set_cons_zero, List.set_cons_succ]
    refine take_to 10 (some 17) (v := ?_) rfl rfl (by kernel_rfl) (by kernel_rfl) (by kernel_rfl) (fun _ _ _ h => h) (Or.inl ⟨by rfl, ?_⟩) (by assumption) ?_
    rotate_left
    · intro w hSw
      (try dsimp only at hSw)
      go_simp
      with_reducible rfl
    simp only [Act.put, List.setIfInBounds_toArray, List.set_cons_zero, List.set_cons_succ]
    refine take_to 11 (some 18) (v := ?_) rfl rfl (by kernel_rfl) (by kernel_rfl) (by kernel_rfl) (fun _ _ _ h => h) (Or.inl ⟨by rfl, ?_⟩) (by assumption) ?_
    rotate_left
    · intro w hSw
      (try dsimp only at hSw)
      go_simp
      with_reducible rfl
    simp only [Act.put, List.setIfInBounds_toArray, List.set_cons_zero, List.set_cons_succ]
    refine wpAnyH_ready (rs := [12]) (by kernel_rfl) (by simp) ?_
    refine AllReadyH.cons rfl (fun K hK => ?_) AllReadyH.nil
    go_simp
    refine hK.out _ _ (HNX.out _ (hbw2.alloc hbw2.size _)) (fun hHeld => ?_)
    clear hK K
    try simp only [Act.put, List.setIfInBounds_toArray, List.set_cons_zero, List.set_cons_succ]
    refine wpAnyH_ready (rs := [13]) (by kernel_rfl) (by simp) ?_
    refine AllReadyH.cons rfl (fun K hK => ?_) AllReadyH.nil
    go_simp
    refine hK.out _ _ (HNX.out _ (hbw2.alloc hbw2.size _)) (fun hHeld => ?_)
    clear hK K
    try simp only [Act.put, List.setIfInBounds_toArray, List.set_cons_zero, List.set_cons_succ]
    refine take_to 14 (some 6) (v := ?_) rfl rfl (by kernel_rfl) (by kernel_rfl) (by kernel_rfl) (fun _ _ _ h => h) (Or.inl ⟨by rfl, ?_⟩) (by assumption) ?_
    rotate_left
    · intro w hSw
      (try dsimp only at hSw)
      go_simp
      with_reducible rfl
    simp only [Act.put, List.setIfInBounds_toArray, List.set_cons_zero, List.set_cons_succ]
    refine wpAnyH_done (by kernel_rfl) ?_ _
    refine NoPanic.normal ?_
    have hb3 : Below wo.heap.size wo (w2.alloc (.cells (k8L (t4, d4, t5, d5, t6, d6, t7, d7)).toArray 30)) := hbw2.alloc hbw2.size _
    have ho3 : OwnRow (w2.alloc (.cells (k8L (t4, d4, t5, d5, t6, d6, t7, d7)).toArray 30)) w2.heap.size 30 (k8L (t4, d4, t5, d5, t6, d6, t7, d7)) := heap_alloc_new w2 _
    have hbw3 := HBA.out.trans (hb3.mono HBA.out.size)
    have hq5 := (HNX.out _ hb3).2.2.2.2.2.2.2.2.1
    have hc1 := (HRC.out _ hbw3).2
    clear HNX HF2
    change Exit.then _ _ _ _ (w2.alloc (.cells (k8L (t4, d4, t5, d5, t6, d6, t7, d7)).toArray 30))
    generalize (w2.alloc (.cells (k8L (t4, d4, t5, d5, t6, d6, t7, d7)).toArray 30)) = w3 at hb3 ho3 hbw3 hq5 hc1 ⊢
    have hlt3 := ho3.lt
    obtain ⟨⟨z0, z1, z2, z3⟩, z4, z5, z6, z7⟩ := ho3.eight
    by_cases hG : E = 0
    · subst hG
      go_wp2_with (first
        | (refine wpList_store_mid rfl 30 (.tmp 25) (.tmp 23) rfl g (k * 10 + 2) (k8L (t4, d4, t5, d5, t6, d6, t7, d7)).toArray rfl rfl (HTH.out _ hbw3) info_keys (k8L_one _) ?_))
      go_ret
      exact ⟨rfl, HR2.out ▸ HS.out _ hbw3, (Spare.of_below hbw3).setCells _ _⟩
    · have hd : (E != 0) = true := by simpa using hG
      have hR3 := HR2.out
      rw [if_neg hG] at hR3
      go_wp2
      go_ret
      (try rw [hR3])
      exact ⟨rfl, HW.out _ hbw3, Spare.of_below hbw3⟩
  · go_simp
    refine hK.out _ _ (HNX.out _ (((Below.refl _ _).drew).alloc (Nat.le_refl _) _)) (fun hHeld => ?_)
    clear hK K
    try simp only [Act.put, List.setIfInBounds_toArray, List.set_cons_zero, List.set_cons_succ]
    refine wpAnyH_ready (rs := [8]) (by kernel_rfl) (by simp) ?_
    refine AllReadyH.cons rfl (fun K hK => ?_) AllReadyH.nil
    go_simp
    refine Calls.mono (HF2.out _ (((Below.refl _ _).drew).alloc (Nat.le_refl _) _)) ?_
    rintro e w2 ⟨rfl, hbw2, hw2⟩
    go_wp2_with fail
    refine hK.out _ _ (HNX.out _ hbw2) (fun hHeld => ?_)
    clear hK K
    try simp only [Act.put, List.setIfInBounds_toArray, List.set_cons_zero, List.set_cons_succ]
    have hX : OwnRow w2 wo.heap.size 30 [.bool false, .int .i64 0, .bool false, .int .i64 0, .bool false, .int .i64 0, .bool false, .int .i64 0] := own_drew hw2
    have hY : w2.there wo.heap.size 0 8 := fun j hj => ⟨by rw [hX.cell, List.getElem?_eq_getElem (by simpa using hj)]; rfl, hX.free _⟩
    refine take_to 9 (some 7) (v := ?_) rfl rfl (by kernel_rfl) (by kernel_rfl) (by kernel_rfl) (fun _ _ _ h => h) (Or.inl ⟨by rfl, ?_⟩) (by assumption) ?_
    rotate_left
    · intro w hSw
      (try dsimp only at hSw)
      go_simp
      with_reducible rfl
    simp only [Act.put, List.setIfInBounds_toArray, List.set_cons_zero, List.set_cons_succ]
    refine take_to 10 (some 17) (v := ?_) rfl rfl (by kernel_rfl) (by kernel_rfl) (by kernel_rfl) (fun _ _ _ h => h) (Or.inl ⟨by rfl, ?_⟩) (by assumption) ?_
    rotate_left
    · intro w hSw
      (try dsimp only at hSw)
      go_simp
      with_reducible rfl
    simp only [Act.put, List.setIfInBounds_toArray, List.set_cons_zero, List.set_cons_succ]
    refine take_to 11 (some 18) (v := ?_) rfl rfl (by kernel_rfl) (by kernel_rfl) (by kernel_rfl) (fun _ _ _ h => h) (Or.inl ⟨by rfl, ?_⟩) (by assumption) ?_
    rotate_left
    · intro w hSw
      (try dsimp only at hSw)
      go_simp
      with_reducible rfl
    simp only [Act.put, List.setIfInBounds_toArray, List.set_cons_zero, List.set_cons_succ]
    refine wpAnyH_ready (rs := [13]) (by kernel_rfl) (by simp) ?_
    refine AllReadyH.cons rfl (fun K hK => ?_) AllReadyH.nil
    rw [if_pos (by rfl)]
    refine wp_store_mid _ _ _ rfl wo.heap.size 0 (k8L (t4, d4, t5, d5, t6, d6, t7, d7)).toArray rfl rfl hY info_keys (k8L_one _) ?_
    refine hK.out _ _ (HNX.out _ (below_setCells (Nat.le_refl _) _ _ _ _ hbw2)) (fun hHeld => ?_)
    clear hK K
    try simp only [Act.put, List.setIfInBounds_toArray, List.set_cons_zero, List.set_cons_succ]
    refine take_to 14 (some 6) (v := ?_) rfl rfl (by kernel_rfl) (by kernel_rfl) (by kernel_rfl) (fun _ _ _ h => h) (Or.inl ⟨by rfl, ?_⟩) (by assumption) ?_
    rotate_left
    · intro w hSw
      (try dsimp only at hSw)
      go_simp
      with_reducible rfl
    simp only [Act.put, List.setIfInBounds_toArray, List.set_cons_zero, List.set_cons_succ]
    refine wpAnyH_done (by kernel_rfl) ?_ _
    refine NoPanic.normal ?_
    have hb3 : Below wo.heap.size wo (w2.setCells wo.heap.size 0 (k8L (t4, d4, t5, d5, t6, d6, t7, d7))) := below_setCells (Nat.le_refl _) _ _ _ _ hbw2
    have ho3 : OwnRow (w2.setCells wo.heap.size 0 (k8L (t4, d4, t5, d5, t6, d6, t7, d7))) wo.heap.size 30 (k8L (t4, d4, t5, d5, t6, d6, t7, d7)) := hX.setCells (k8L (t4, d4, t5, d5, t6, d6, t7, d7)) 0 _ _ (Nat.le_refl _)
    have hbw3 := HBA.out.trans (hb3.mono HBA.out.size)
    have hq5 := (HNX.out _ hb3).2.2.2.2.2.2.2.2.1
    have hc1 := (HRC.out _ hbw3).2
    clear HNX HF2
    change Exit.then _ _ _ _ (w2.setCells wo.heap.size 0 (k8L (t4, d4, t5, d5, t6, d6, t7, d7)))
    generalize (w2.setCells wo.heap.size 0 (k8L (t4, d4, t5, d5, t6, d6, t7, d7))) = w3 at hb3 ho3 hbw3 hq5 hc1 ⊢
    have hlt3 := ho3.lt
    obtain ⟨⟨z0, z1, z2, z3⟩, z4, z5, z6, z7⟩ := ho3.eight
    by_cases hG : E = 0
    · subst hG
      go_wp2_with (first
        | (refine wpList_store_mid rfl 30 (.tmp 25) (.tmp 23) rfl g (k * 10 + 2) (k8L (t4, d4, t5, d5, t6, d6, t7, d7)).toArray rfl rfl (HTH.out _ hbw3) info_keys (k8L_one _) ?_))
      go_ret
      exact ⟨rfl, HR2.out ▸ HS.out _ hbw3, (Spare.of_below hbw3).setCells _ _⟩
    · have hd : (E != 0) = true := by simpa using hG
      have hR3 := HR2.out
      rw [if_neg hG] at hR3
      go_wp2
      go_ret
      (try rw [hR3])
      exact ⟨rfl, HW.out _ hbw3, Spare.of_below hbw3⟩

end Go.Proofs.Ytbiipnojhjhejaa

/- The contract of flat.process.look: what loads, stores, fetches and tags answer and leave. -/
import Derived.Test.YtlhmfbkpmfofiaiFlat10
namespace Go.Proofs.Ytlhmfbkpmfofiai
set_option maxRecDepth 100000
open Go.RowKit
set_option linter.unusedSimpArgs false
set_option linter.unusedVariables false

/-- An answer as it is returned. -/
abbrev ansV (a : An) : Value := .agg #[.int .i64 a.1, .int .i64 a.2.1, .int .i64 a.2.2.1, .int .i64 a.2.2.2]

theorem info_ans : (Try.prog.info? 40).map (·.size) = some 4 := by kernel_rfl

/-- A row of something else is written. -/
theorem WOK.setOther {base g : Nat} {w : World} {S : W4} (h : WOK base g w S) {b : Nat} {e : TypeId} {xs : List Value} (hr : OwnRow w b e xs) (he : e ≠ 46) (hb : b ≠ g) (i : Nat) (v : Value) : WOK base g (w.setCell ⟨b, i, none⟩ v) S := by
  obtain ⟨h1, h2, ys, h3, h4, h5⟩ := h
  refine ⟨h1, by simpa [World.setCell] using h2, ys, h3.beside (fun e => hb e.symm) v, h4, fun k hk => ?_⟩
  obtain ⟨u, hu, q1, q2 | ⟨g', cap, cur, rfl, hbg, hg', hrr⟩⟩ := h5 k hk
  · exact ⟨u, hu, q1, Or.inl q2⟩
  · refine ⟨_, hu, q1, Or.inr ⟨g', cap, cur, rfl, hbg, (Below.heap_setCell w _ v g' ?_).trans hg', hrr⟩⟩
    intro hgb
    have hgb' : g' = b := hgb
    subst hgb'
    unfold OwnRow at hr
    rw [hr] at hg'
    simp only [Option.some.injEq, Obj.cells.injEq] at hg'
    exact he hg'.2.1

theorem Spare.new {g : Nat} {w w1 : World} (h : Spare g w w1) {b : Nat} (hb : w.heap.size ≤ b) (i : Nat) (v : Value) : Spare g w (w1.setCell ⟨b, i, none⟩ v) :=
  ⟨by simpa [World.setCell] using h.1, fun k hk hne => (Below.heap_setCell w1 _ v k (by show k ≠ b; omega)).trans (h.2.1 k hk hne), h.2.2⟩

/-- An answer is laid into its variable. -/
theorem WOK.ans {base g : Nat} {w w1 : World} {S : W4} (h : WOK base g w1 S) (hs : Spare g w w1) {b : Nat} {a0 a1 a2 a3 : Value} (hr : OwnRow w1 b 40 [a0, a1, a2, a3]) (hb : w.heap.size ≤ b) (hbg : b ≠ g) (v0 v1 v2 v3 : Value) :
    WOK base g ((((w1.setCell ⟨b, 0, none⟩ v0).setCell ⟨b, 1, none⟩ v1).setCell ⟨b, 2, none⟩ v2).setCell ⟨b, 3, none⟩ v3) S ∧ Spare g w ((((w1.setCell ⟨b, 0, none⟩ v0).setCell ⟨b, 1, none⟩ v1).setCell ⟨b, 2, none⟩ v2).setCell ⟨b, 3, none⟩ v3) ∧
      OwnRow ((((w1.setCell ⟨b, 0, none⟩ v0).setCell ⟨b, 1, none⟩ v1).setCell ⟨b, 2, none⟩ v2).setCell ⟨b, 3, none⟩ v3) b 40 [v0, v1, v2, v3] := by
  have he : (40 : TypeId) ≠ 46 := by decide
  have r1 := hr.set 0 v0
  have r2 := r1.set 1 v1
  have r3 := r2.set 2 v2
  have r4 := r3.set 3 v3
  exact ⟨(((h.setOther hr he hbg 0 v0).setOther r1 he hbg 1 v1).setOther r2 he hbg 2 v2).setOther r3 he hbg 3 v3, (((hs.new hb 0 v0).new hb 1 v1).new hb 2 v2).new hb 3 v3, r4⟩

theorem tchE_two {o : O12} (h : tchE o ≠ 0) : tchE o = 2 := by
  unfold tchE at *
  split
  · rfl
  · rename_i h1
    rw [if_neg h1] at h
    split
    · rfl
    · rename_i h2; rw [if_neg h2] at h; exact absurd rfl h

theorem touch_nat {o : O12} (h : tchE o = 0) : ∃ f t : Nat, o.addr = f ∧ o.addr + tMany o * tEach o = t ∧ tF o = f ∧ tT o = t ∧ f < t ∧ t ≤ 4096 ∧ (o.kind ≠ 13 → t - f ≤ 4) := by
  obtain ⟨h1, ⟨h2, h3⟩, h4, h5, h6⟩ := tchE_ok h
  have h7 : 1 ≤ tMany o * tEach o := by
    unfold tEach
    split <;> omega
  refine ⟨o.addr.toNat, (o.addr + tMany o * tEach o).toNat, by omega, by omega, rfl, rfl, by omega, by omega, fun hk => ?_⟩
  have e1 : tEach o = 1 := by unfold tEach; rw [if_neg hk]
  have e2 : tMost o = 4 := by unfold tMost; rw [if_neg hk]
  rw [e1] at *
  rw [e2] at h3
  omega

set_option maxHeartbeats 3200000 in
theorem look_any (base g : Nat) (S : W4) (k : Nat) (hk : k < 4) (o : O12) (hw1 : bdI o.count) (hw2 : bdI o.size) (w : World) (h : WOK base g w S) (hi : Inv S) :
    Calls Try.prog 26 #[.pointer (some ⟨g, k * 4362, none⟩), opV o] w fun e w' => e = .returned (ansV (look14 (S k) o).2) ∧ WOK base g w' (upd S k (look14 (S k) o).1) ∧ Spare g w w' := by
  have HW : Hid (∀ w1, Below w.heap.size w w1 → WOK base g w1 S) := fun w1 hb => h.below hb
  have HT : Hid (∀ w1, Calls Try.prog 31 #[opV o] w1 fun e w' => e = .returned (ftV (if tchE o = 0 then o.addr else 0) (if tchE o = 0 then o.addr + tMany o * tEach o else 0) (tchE o)) ∧ Below w1.heap.size w1 w') := fun w1 => touched_any o hw1 hw2 w1
  have HL : Hid (look14 (S k) o = if tchE o = 0 then
    if (flt (S k) o 65 (tF o) (tT o)).1 = 0 then (lookP (S k) o, 0, lookV (S k) o, 0, 0)
    else (S k, 8, 0, (flt (S k) o 65 (tF o) (tT o)).1, (flt (S k) o 65 (tF o) (tT o)).2)
  else (S k, 2, 0, 0, 0)) := rfl
  have hg := h.glt
  have HSELF : Hid (upd S k (S k) = S) := upd_self S k
  have HBOX : Hid (∀ w1, Below ((w.alloc (.cells #[.int .i64 o.kind, .int .i64 o.proc, .int .i64 o.page, .int .i64 o.count, .int .i64 o.rights, .int .i64 o.key, .bool o.tagged, .int .i64 o.draw, .int .i64 o.addr, .int .i64 o.size, .int .i64 o.value, .int .i64 o.tag] 24)).alloc (.cells #[.int .i64 0, .int .i64 0, .int .i64 0, .int .i64 0] 40)).heap.size ((w.alloc (.cells #[.int .i64 o.kind, .int .i64 o.proc, .int .i64 o.page, .int .i64 o.count, .int .i64 o.rights, .int .i64 o.key, .bool o.tagged, .int .i64 o.draw, .int .i64 o.addr, .int .i64 o.size, .int .i64 o.value, .int .i64 o.tag] 24)).alloc (.cells #[.int .i64 0, .int .i64 0, .int .i64 0, .int .i64 0] 40)) w1 →
      OwnRow w1 w.heap.size 24 [.int .i64 o.kind, .int .i64 o.proc, .int .i64 o.page, .int .i64 o.count, .int .i64 o.rights, .int .i64 o.key, .bool o.tagged, .int .i64 o.draw, .int .i64 o.addr, .int .i64 o.size, .int .i64 o.value, .int .i64 o.tag] ∧ OwnRow w1 (w.heap.size + 1) 40 [.int .i64 0, .int .i64 0, .int .i64 0, .int .i64 0] ∧ Below w.heap.size w w1) := fun w1 hb => by
    have h2 := own_two (w := w) (xs := [.int .i64 o.kind, .int .i64 o.proc, .int .i64 o.page, .int .i64 o.count, .int .i64 o.rights, .int .i64 o.key, .bool o.tagged, .int .i64 o.draw, .int .i64 o.addr, .int .i64 o.size, .int .i64 o.value, .int .i64 o.tag]) (ys := [.int .i64 0, .int .i64 0, .int .i64 0, .int .i64 0]) (e := 24) (e' := 40) hb
    exact ⟨h2.1, h2.2, (((Below.refl _ _).alloc (Nat.le_refl _) _).alloc (by simp) _).trans (hb.mono (by simp; omega))⟩
  have hne : w.heap.size + 1 ≠ g := by omega
  by_cases hE : tchE o = 0
  case neg =>
    have hE2 := tchE_two hE
    have HL2 : Hid (look14 (S k) o = (S k, 2, 0, 0, 0)) := HL.out.trans (if_neg hE)
    rw [HL2.out]
    simp only
    rw [HSELF.out]
    rw [hE2] at HT
    simp only [show ¬ ((2 : Int) = 0) by decide, if_false] at HT
    clear HL HL2 hE hE2 h hi
    obtain ⟨kind, proc, page, count, rights, key, tagged, draw, addr, size, value, tag⟩ := o
    simp only at HBOX
    go_enter Try.func26, Try.ntmps26
    go_wp2_with (go_at_call 31; refine (HT.out _).mono ?_; rintro e w1 ⟨rfl, hb1⟩; obtain ⟨-, hra, hbw⟩ := HBOX.out _ hb1; obtain ⟨⟨x0, x1, x2, x3⟩, y0, y1, y2, y3⟩ := hra.quadf; have hlt := hra.lt)
    obtain ⟨f1, f2, f3⟩ := (HW.out _ hbw).ans (Spare.of_below hbw) hra (Nat.le_succ _) hne (.int .i64 2) (.int .i64 0) (.int .i64 0) (.int .i64 0)
    exact bodyPost_ret (v := ansV (2, 0, 0, 0)) (results_cell_row Try.results26 _ _ (w.heap.size + 1) 40 #[.int .i64 2, .int .i64 0, .int .i64 0, .int .i64 0] (0, 0) _ rfl f3 Try.underlying40 rfl info_ans) rfl ⟨rfl, f1, f2⟩
  obtain ⟨f, t, hf, ht, hF, hT, q1, q2, q3⟩ := touch_nat hE
  have HL2 : Hid (look14 (S k) o = if (flt (S k) o 65 f t).1 = 0 then (lookP (S k) o, 0, lookV (S k) o, 0, 0) else (S k, 8, 0, (flt (S k) o 65 f t).1, (flt (S k) o 65 f t).2)) := by
    have := HL.out.trans (if_pos hE)
    rw [hF, hT] at this
    exact this
  have HT2 : Hid (∀ w1, Calls Try.prog 31 #[opV o] w1 fun e w' => e = .returned (ftV f t 0) ∧ Below w1.heap.size w1 w') := fun w1 => by
    have := HT.out w1
    rw [hE, if_pos rfl, if_pos rfl, ht, hf] at this
    exact this
  have HFL : Hid (∀ w1, Below w.heap.size w w1 → Calls Try.prog 32 #[.pointer (some ⟨g, k * 4362, none⟩), opV o, .int .i64 f, .int .i64 t] w1 fun e w' => e = .returned (.tuple #[.int .i64 (flt (S k) o 65 f t).1, .int .i64 (flt (S k) o 65 f t).2]) ∧ Below w1.heap.size w1 w') := fun w1 hb => fault_any base g S k hk o f t (by omega) q2 w1 (HW.out _ hb) hi
  have HMK : Hid (∀ w1, Below w.heap.size w w1 → Calls Try.prog 33 #[.pointer (some ⟨g, k * 4362, none⟩), .int .i64 f, .int .i64 t, .int .i64 o.tag] w1 fun e w' => (∃ v, e = .returned v) ∧ WOK base g w' (upd S k (markT (S k) o)) ∧ Spare g w1 w') := fun w1 hb => by
    have := mark_any base g S k hk f t (by omega) q2 o.tag w1 (HW.out _ hb)
    have e : mkT (S k) (f / 16) (t / 16) o.tag = markT (S k) o := by unfold mkT markT; rw [hF, hT]
    rw [e] at this
    exact this
  have HST : Hid (∀ w1, Below w.heap.size w w1 → Calls Try.prog 34 #[.pointer (some ⟨g, k * 4362, none⟩), .int .i64 f, .int .i64 t, .int .i64 o.value] w1 fun e w' => (∃ v, e = .returned v) ∧ WOK base g w' (upd S k (storB (S k) o)) ∧ Spare g w1 w') := fun w1 hb => by
    have := store_any base g S k hk f t (by omega) q2 o.value w1 (HW.out _ hb)
    have e : stB (S k) f t o.value = storB (S k) o := by unfold stB storB; rw [hF, hT]
    rw [e] at this
    exact this
  have HLD : Hid (o.kind ≠ 13 → ∀ w1, Below w.heap.size w w1 → Calls Try.prog 35 #[.pointer (some ⟨g, k * 4362, none⟩), .int .i64 f, .int .i64 t] w1 fun e w' => e = .returned (.int .i64 (numB (S k) f (t - f))) ∧ Below w1.heap.size w1 w') := fun hkk w1 hb => by
    have := load_any base g S k hk f (t - f) (by omega) (q3 hkk) (by omega) w1 (HW.out _ hb) hi
    rw [show (f : Int) + ((t - f : Nat) : Int) = (t : Int) by omega] at this
    exact this
  have HLV : Hid (lookV (S k) o = if o.kind = 13 ∨ o.kind = 11 then 0 else numB (S k) f (t - f)) := by show _ = _; unfold lookV; rw [hF, hT]
  have HLP : Hid (lookP (S k) o = if o.kind = 13 then markT (S k) o else if o.kind = 11 then storB (S k) o else S k) := rfl
  clear HL HT h hi hf ht hF hT q1 q2 q3 hE hw1 hw2
  generalize flt (S k) o 65 f t = X at *
  generalize look14 (S k) o = LK at *
  generalize lookV (S k) o = LV at *
  generalize lookP (S k) o = LP at *
  generalize numB (S k) f (t - f) = N at *
  obtain ⟨M, hM⟩ : ∃ M, M = markT (S k) o := ⟨_, rfl⟩
  obtain ⟨B, hB⟩ : ∃ B, B = storB (S k) o := ⟨_, rfl⟩
  rw [← hM] at HMK HLP
  rw [← hB] at HST HLP
  clear hM hB
  obtain ⟨X1, X2⟩ := X
  simp only at HL2 HFL
  obtain ⟨kind, proc, page, count, rights, key, tagged, draw, addr, size, value, tag⟩ := o
  simp only at HBOX HMK HST HLD HLV HLP
  by_cases hX : X1 = 0
  case neg =>
    obtain rfl : LK = (S k, 8, 0, X1, X2) := HL2.out.trans (if_neg hX)
    have hd : (X1 != 0) = true := by simpa using hX
    simp only
    rw [HSELF.out]
    clear HL2 HMK HST HLD HLV HLP
    go_enter Try.func26, Try.ntmps26
    go_wp2_with (first | (go_at_call 31; refine (HT2.out _).mono ?_; rintro e w1 ⟨rfl, hb1⟩; obtain ⟨hbx, hra, hbw⟩ := HBOX.out _ hb1; obtain ⟨⟨b0, b1, b2, b3, b4, b5⟩, b6, b7, b8, b9, b10, b11⟩ := hbx.twelve; clear hbx) | (go_at_call 32; refine (HFL.out _ hbw).mono ?_; rintro e w2 ⟨rfl, hb2⟩; replace hb1 := hb1.trans (hb2.mono hb1.size); clear b0 b1 b2 b3 b4 b5 b6 b7 b8 b9 b10 b11 hbw hra hb2; obtain ⟨hbx, hra, hbw⟩ := HBOX.out _ hb1; obtain ⟨⟨b0, b1, b2, b3, b4, b5⟩, b6, b7, b8, b9, b10, b11⟩ := hbx.twelve; clear hbx; obtain ⟨⟨x0, x1, x2, x3⟩, y0, y1, y2, y3⟩ := hra.quadf; have hlt := hra.lt))
    obtain ⟨f1, f2, f3⟩ := (HW.out _ hbw).ans (Spare.of_below hbw) hra (Nat.le_succ _) hne (.int .i64 8) (.int .i64 0) (.int .i64 X1) (.int .i64 X2)
    exact bodyPost_ret (v := ansV (8, 0, X1, X2)) (results_cell_row Try.results26 _ _ (w.heap.size + 1) 40 #[.int .i64 8, .int .i64 0, .int .i64 X1, .int .i64 X2] (0, 0) _ rfl f3 Try.underlying40 rfl info_ans) rfl ⟨rfl, f1, f2⟩
  subst hX
  obtain rfl : LK = (LP, 0, LV, 0, 0) := HL2.out.trans (if_pos rfl)
  simp only
  clear HL2
  by_cases k13 : kind = 13
  · subst k13
    obtain rfl : LP = M := HLP.out.trans (if_pos rfl)
    obtain rfl : LV = 0 := HLV.out.trans (if_pos (Or.inl rfl))
    clear HLP HLV HST HLD
    go_enter Try.func26, Try.ntmps26
    go_wp2_with (first | (go_at_call 31; refine (HT2.out _).mono ?_; rintro e w1 ⟨rfl, hb1⟩; obtain ⟨hbx, hra, hbw⟩ := HBOX.out _ hb1; obtain ⟨⟨b0, b1, b2, b3, b4, b5⟩, b6, b7, b8, b9, b10, b11⟩ := hbx.twelve; clear hbx) | (go_at_call 32; refine (HFL.out _ hbw).mono ?_; rintro e w2 ⟨rfl, hb2⟩; replace hb1 := hb1.trans (hb2.mono hb1.size); clear b0 b1 b2 b3 b4 b5 b6 b7 b8 b9 b10 b11 hbw hra hb2; obtain ⟨hbx, hra, hbw⟩ := HBOX.out _ hb1; obtain ⟨⟨b0, b1, b2, b3, b4, b5⟩, b6, b7, b8, b9, b10, b11⟩ := hbx.twelve; clear hbx; obtain ⟨⟨x0, x1, x2, x3⟩, y0, y1, y2, y3⟩ := hra.quadf; have hlt := hra.lt) | (go_at_call 33; refine (HMK.out _ hbw).mono ?_; rintro e w3 ⟨⟨v, rfl⟩, hw3, hsp⟩; have hra3 := hsp.row hra hne; clear x0 x1 x2 x3 y0 y1 y2 y3 b0 b1 b2 b3 b4 b5 b6 b7 b8 b9 b10 b11 hlt; obtain ⟨⟨x0, x1, x2, x3⟩, y0, y1, y2, y3⟩ := hra3.quadf; have hlt := hra3.lt))
    obtain ⟨f1, f2, f3⟩ := (hw3).ans ((Spare.of_below hbw).trans hsp) hra3 (Nat.le_succ _) hne (.int .i64 0) (.int .i64 0) (.int .i64 0) (.int .i64 0)
    exact bodyPost_ret (v := ansV (0, 0, 0, 0)) (results_cell_row Try.results26 _ _ (w.heap.size + 1) 40 #[.int .i64 0, .int .i64 0, .int .i64 0, .int .i64 0] (0, 0) _ rfl f3 Try.underlying40 rfl info_ans) rfl ⟨rfl, f1, f2⟩
  have d13 : (kind == 13) = false := by simpa using k13
  by_cases k11 : kind = 11
  · subst k11
    obtain rfl : LP = B := HLP.out.trans ((if_neg k13).trans (if_pos rfl))
    obtain rfl : LV = 0 := HLV.out.trans (if_pos (Or.inr rfl))
    clear HLP HLV HMK HLD k13
    go_enter Try.func26, Try.ntmps26
    go_wp2_with (first | (go_at_call 31; refine (HT2.out _).mono ?_; rintro e w1 ⟨rfl, hb1⟩; obtain ⟨hbx, hra, hbw⟩ := HBOX.out _ hb1; obtain ⟨⟨b0, b1, b2, b3, b4, b5⟩, b6, b7, b8, b9, b10, b11⟩ := hbx.twelve; clear hbx) | (go_at_call 32; refine (HFL.out _ hbw).mono ?_; rintro e w2 ⟨rfl, hb2⟩; replace hb1 := hb1.trans (hb2.mono hb1.size); clear b0 b1 b2 b3 b4 b5 b6 b7 b8 b9 b10 b11 hbw hra hb2; obtain ⟨hbx, hra, hbw⟩ := HBOX.out _ hb1; obtain ⟨⟨b0, b1, b2, b3, b4, b5⟩, b6, b7, b8, b9, b10, b11⟩ := hbx.twelve; clear hbx; obtain ⟨⟨x0, x1, x2, x3⟩, y0, y1, y2, y3⟩ := hra.quadf; have hlt := hra.lt) | (go_at_call 34; refine (HST.out _ hbw).mono ?_; rintro e w3 ⟨⟨v, rfl⟩, hw3, hsp⟩; have hra3 := hsp.row hra hne; clear x0 x1 x2 x3 y0 y1 y2 y3 b0 b1 b2 b3 b4 b5 b6 b7 b8 b9 b10 b11 hlt; obtain ⟨⟨x0, x1, x2, x3⟩, y0, y1, y2, y3⟩ := hra3.quadf; have hlt := hra3.lt))
    obtain ⟨f1, f2, f3⟩ := (hw3).ans ((Spare.of_below hbw).trans hsp) hra3 (Nat.le_succ _) hne (.int .i64 0) (.int .i64 0) (.int .i64 0) (.int .i64 0)
    exact bodyPost_ret (v := ansV (0, 0, 0, 0)) (results_cell_row Try.results26 _ _ (w.heap.size + 1) 40 #[.int .i64 0, .int .i64 0, .int .i64 0, .int .i64 0] (0, 0) _ rfl f3 Try.underlying40 rfl info_ans) rfl ⟨rfl, f1, f2⟩
  have d11 : (kind == 11) = false := by simpa using k11
  obtain rfl : LP = S k := HLP.out.trans ((if_neg k13).trans (if_neg k11))
  obtain rfl : LV = N := HLV.out.trans (if_neg (fun h => h.elim k13 k11))
  rw [HSELF.out]
  clear HLP HLV HMK HST k11
  go_enter Try.func26, Try.ntmps26
  go_wp2_with (first | (go_at_call 31; refine (HT2.out _).mono ?_; rintro e w1 ⟨rfl, hb1⟩; obtain ⟨hbx, hra, hbw⟩ := HBOX.out _ hb1; obtain ⟨⟨b0, b1, b2, b3, b4, b5⟩, b6, b7, b8, b9, b10, b11⟩ := hbx.twelve; clear hbx) | (go_at_call 32; refine (HFL.out _ hbw).mono ?_; rintro e w2 ⟨rfl, hb2⟩; replace hb1 := hb1.trans (hb2.mono hb1.size); clear b0 b1 b2 b3 b4 b5 b6 b7 b8 b9 b10 b11 hbw hra hb2; obtain ⟨hbx, hra, hbw⟩ := HBOX.out _ hb1; obtain ⟨⟨b0, b1, b2, b3, b4, b5⟩, b6, b7, b8, b9, b10, b11⟩ := hbx.twelve; clear hbx; obtain ⟨⟨x0, x1, x2, x3⟩, y0, y1, y2, y3⟩ := hra.quadf; have hlt := hra.lt) | (go_at_call 35; refine (HLD.out (by assumption) _ hbw).mono ?_; rintro e w3 ⟨rfl, hb3⟩; have hra3 := hra.below hb3 hra.lt; have hbw3 := hbw.trans (hb3.mono hbw.size); clear x0 x1 x2 x3 y0 y1 y2 y3 b0 b1 b2 b3 b4 b5 b6 b7 b8 b9 b10 b11 hlt; obtain ⟨⟨x0, x1, x2, x3⟩, y0, y1, y2, y3⟩ := hra3.quadf; have hlt := hra3.lt))
  obtain ⟨f1, f2, f3⟩ := (HW.out _ hbw3).ans (Spare.of_below hbw3) hra3 (Nat.le_succ _) hne (.int .i64 0) (.int .i64 LV) (.int .i64 0) (.int .i64 0)
  exact bodyPost_ret (v := ansV (0, LV, 0, 0)) (results_cell_row Try.results26 _ _ (w.heap.size + 1) 40 #[.int .i64 0, .int .i64 LV, .int .i64 0, .int .i64 0] (0, 0) _ rfl f3 Try.underlying40 rfl info_ans) rfl ⟨rfl, f1, f2⟩

end Go.Proofs.Ytlhmfbkpmfofiai

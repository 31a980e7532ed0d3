/- The contract of flat.world.do: one thing done. -/
import Derived.Test.YtlhmfbkpmfofiaiFlat12
namespace Go.Proofs.Ytlhmfbkpmfofiai
set_option maxRecDepth 100000
open Go.RowKit
set_option linter.unusedSimpArgs false
set_option linter.unusedVariables false

theorem do_look {S : W4} {o : O12} {k : Nat} (h1 : 1 ≤ o.kind) (h2 : o.kind ≤ 13) (hp : o.proc = k) (hk : k < 4) (hl : (S k).live = true) (hL : isLk o.kind = true) : do14 S o = (upd S k (look14 (S k) o).1, (look14 (S k) o).2) := by
  have e : o.proc.toNat = k := by omega
  unfold do14
  rw [e, if_neg (by omega), if_neg (by omega), if_neg (by rw [hl]; intro h; rcases h with h | h | h; omega; omega; cases h), if_pos hL]

theorem do_turn {S : W4} {o : O12} {k : Nat} (h1 : 1 ≤ o.kind) (h2 : o.kind ≤ 13) (hp : o.proc = k) (hk : k < 4) (hl : (S k).live = true) (hL : isLk o.kind = false) : do14 S o = (tuS S k o, tuE S k o, tuV S k o, 0, 0) := by
  have e : o.proc.toNat = k := by omega
  unfold do14 tuS tuE tuV
  rw [e, if_neg (by omega), if_neg (by omega), if_neg (by rw [hl]; intro h; rcases h with h | h | h; omega; omega; cases h), if_neg (by rw [hL]; decide)]
  split <;> rfl

theorem not_look {x : Int} (h1 : 1 ≤ x) (h2 : x ≤ 13) (h : isLk x = false) : 1 ≤ x ∧ x ≤ 9 := by
  unfold isLk at h
  simp at h
  omega

set_option maxHeartbeats 3200000 in
theorem do14_any (base g : Nat) (S : W4) (o : O12) (hw1 : bdI o.count) (hw2 : bdI o.size) (w : World) (h : WOK base g w S) (hi : Inv S) :
    Calls Try.prog 18 #[.pointer (some ⟨g, 0, none⟩), opV o] w fun e w' => e = .returned (ansV (do14 S o).2) ∧ WOK base g w' (do14 S o).1 ∧ Spare g w w' := by
  have HW : Hid (∀ w1, Below w.heap.size w w1 → WOK base g w1 S) := fun w1 hb => h.below hb
  have HI : Hid (Inv S) := hi
  have hg := h.glt
  have hne : w.heap.size + 1 ≠ g := by omega
  have HD : Hid (do14 S o = if o.kind < 1 ∨ 14 < o.kind then (S, 5, 0, 0, 0) else if o.kind = 14 then (S, 0, 0, 0, 0) else if o.proc < 0 ∨ 3 < o.proc ∨ (S o.proc.toNat).live = false then (S, 3, 0, 0, 0)
    else if isLk o.kind then (upd S o.proc.toNat (look14 (S o.proc.toNat) o).1, (look14 (S o.proc.toNat) o).2)
    else if o.kind = 8 then ((fork14 S (S o.proc.toNat)).1, (fork14 S (S o.proc.toNat)).2.2, (fork14 S (S o.proc.toNat)).2.1, 0, 0)
    else (upd S o.proc.toNat (own14 S (S o.proc.toNat) o).1, (own14 S (S o.proc.toNat) o).2.2, (own14 S (S o.proc.toNat) o).2.1, 0, 0)) := rfl
  have HDL : Hid (∀ k : Nat, 1 ≤ o.kind → o.kind ≤ 13 → o.proc = k → k < 4 → (S k).live = true → isLk o.kind = true → do14 S o = (upd S k (look14 (S k) o).1, (look14 (S k) o).2)) := fun k => do_look
  have HDT : Hid (∀ k : Nat, 1 ≤ o.kind → o.kind ≤ 13 → o.proc = k → k < 4 → (S k).live = true → isLk o.kind = false → do14 S o = (tuS S k o, tuE S k o, tuV S k o, 0, 0)) := fun k => do_turn
  have HLK : Hid (∀ (k : Nat), k < 4 → ∀ w1, Below w.heap.size w w1 → Calls Try.prog 26 #[.pointer (some ⟨g, k * 4362, none⟩), opV o] w1 fun e w' => e = .returned (ansV (look14 (S k) o).2) ∧ WOK base g w' (upd S k (look14 (S k) o).1) ∧ Spare g w1 w') := fun k hk w1 hb => look_any base g S k hk o hw1 hw2 w1 (HW.out _ hb) hi
  have HTU : Hid (∀ (k : Nat), k < 4 → 1 ≤ o.kind ∧ o.kind ≤ 9 → ∀ w1, Below w.heap.size w w1 → Calls Try.prog 27 #[.pointer (some ⟨g, 0, none⟩), .pointer (some ⟨g, k * 4362, none⟩), opV o] w1 fun e w' => e = .returned (.tuple #[.int .i64 (tuV S k o), .int .i64 (tuE S k o)]) ∧ WOK base g w' (tuS S k o) ∧ Spare g w1 w') := fun k hk hkd w1 hb => turn14_any base g S k hk o hw1 hkd w1 (HW.out _ hb) hi
  have HIL : Hid (∀ w1, Calls Try.prog 25 #[.int .i64 o.kind] w1 fun e w' => e = .returned (.bool (isLk o.kind)) ∧ w1 = w') := fun w1 => isLook_any o.kind w1
  have HLV : Hid (∀ k : Nat, k < 4 → ∀ w1, Below w.heap.size w w1 → w1.cell? ⟨g, k * 4362, none⟩ = some (.bool (S k).live)) := fun k hk w1 hb => (HW.out _ hb).live hk
  clear h hi
  obtain ⟨D, hD⟩ : ∃ D, D = do14 S o := ⟨_, rfl⟩
  rw [← hD] at HD HDL HDT ⊢
  clear hD
  obtain ⟨IL, hIL⟩ : ∃ b, b = isLk o.kind := ⟨_, rfl⟩
  rw [← hIL] at HIL HDL HDT
  have HNL : Hid (IL = false → 1 ≤ o.kind → o.kind ≤ 13 → 1 ≤ o.kind ∧ o.kind ≤ 9) := fun h h1 h2 => not_look h1 h2 (by rw [← hIL]; exact h)
  clear hIL
  -- the letters of what is done stay as they are in the contracts; the walk sees numbers
  have HO : Hid (opV o = opV o) := rfl
  obtain ⟨kind, proc, page, count, rights, key, tagged, draw, addr, size, value, tag⟩ := o
  simp only at HD HDL HDT HIL HNL HTU hw1 hw2
  have HBOX : Hid (∀ w1, Below ((w.alloc (.cells #[.int .i64 kind, .int .i64 proc, .int .i64 page, .int .i64 count, .int .i64 rights, .int .i64 key, .bool tagged, .int .i64 draw, .int .i64 addr, .int .i64 size, .int .i64 value, .int .i64 tag] 24)).alloc (.cells #[.int .i64 0, .int .i64 0, .int .i64 0, .int .i64 0] 40)).heap.size ((w.alloc (.cells #[.int .i64 kind, .int .i64 proc, .int .i64 page, .int .i64 count, .int .i64 rights, .int .i64 key, .bool tagged, .int .i64 draw, .int .i64 addr, .int .i64 size, .int .i64 value, .int .i64 tag] 24)).alloc (.cells #[.int .i64 0, .int .i64 0, .int .i64 0, .int .i64 0] 40)) w1 → OwnRow w1 w.heap.size 24 [.int .i64 kind, .int .i64 proc, .int .i64 page, .int .i64 count, .int .i64 rights, .int .i64 key, .bool tagged, .int .i64 draw, .int .i64 addr, .int .i64 size, .int .i64 value, .int .i64 tag] ∧ OwnRow w1 (w.heap.size + 1) 40 [.int .i64 0, .int .i64 0, .int .i64 0, .int .i64 0] ∧ Below w.heap.size w w1) := fun w1 hb => by
    have h2 := own_two (w := w) (xs := [.int .i64 kind, .int .i64 proc, .int .i64 page, .int .i64 count, .int .i64 rights, .int .i64 key, .bool tagged, .int .i64 draw, .int .i64 addr, .int .i64 size, .int .i64 value, .int .i64 tag]) (ys := [.int .i64 0, .int .i64 0, .int .i64 0, .int .i64 0]) (e := 24) (e' := 40) hb
    exact ⟨h2.1, h2.2, (((Below.refl _ _).alloc (Nat.le_refl _) _).alloc (by simp) _).trans (hb.mono (by simp; omega))⟩
  by_cases a1 : kind < 1
  · obtain rfl : D = (S, 5, 0, 0, 0) := HD.out.trans (if_pos (Or.inl a1))
    have h2 := own_two (w := w) (xs := [.int .i64 kind, .int .i64 proc, .int .i64 page, .int .i64 count, .int .i64 rights, .int .i64 key, .bool tagged, .int .i64 draw, .int .i64 addr, .int .i64 size, .int .i64 value, .int .i64 tag]) (ys := [.int .i64 5, .int .i64 0, .int .i64 0, .int .i64 0]) (e := 24) (e' := 40) (Below.refl _ _)
    have hbe : Below w.heap.size w ((w.alloc (.cells #[.int .i64 kind, .int .i64 proc, .int .i64 page, .int .i64 count, .int .i64 rights, .int .i64 key, .bool tagged, .int .i64 draw, .int .i64 addr, .int .i64 size, .int .i64 value, .int .i64 tag] 24)).alloc (.cells #[.int .i64 5, .int .i64 0, .int .i64 0, .int .i64 0] 40)) := ((Below.refl _ _).alloc (Nat.le_refl _) _).alloc (by simp) _
    have HF : Hid _ := h2.2
    have HB : Hid _ := hbe
    clear h2 hbe HDL HDT HTU HLK HIL HNL HO HLV HBOX HD
    go_enter Try.func18, Try.ntmps18
    go_wp2
    exact bodyPost_ret (v := ansV (5, 0, 0, 0)) (results_cell_row Try.results18 _ _ (w.heap.size + 1) 40 #[.int .i64 5, .int .i64 0, .int .i64 0, .int .i64 0] (0, 0) _ rfl HF.out Try.underlying40 rfl info_ans) rfl ⟨rfl, HW.out _ HB.out, Spare.of_below HB.out⟩
  by_cases a2 : 14 < kind
  · obtain rfl : D = (S, 5, 0, 0, 0) := HD.out.trans (if_pos (Or.inr a2))
    have h2 := own_two (w := w) (xs := [.int .i64 kind, .int .i64 proc, .int .i64 page, .int .i64 count, .int .i64 rights, .int .i64 key, .bool tagged, .int .i64 draw, .int .i64 addr, .int .i64 size, .int .i64 value, .int .i64 tag]) (ys := [.int .i64 5, .int .i64 0, .int .i64 0, .int .i64 0]) (e := 24) (e' := 40) (Below.refl _ _)
    have hbe : Below w.heap.size w ((w.alloc (.cells #[.int .i64 kind, .int .i64 proc, .int .i64 page, .int .i64 count, .int .i64 rights, .int .i64 key, .bool tagged, .int .i64 draw, .int .i64 addr, .int .i64 size, .int .i64 value, .int .i64 tag] 24)).alloc (.cells #[.int .i64 5, .int .i64 0, .int .i64 0, .int .i64 0] 40)) := ((Below.refl _ _).alloc (Nat.le_refl _) _).alloc (by simp) _
    have HF : Hid _ := h2.2
    have HB : Hid _ := hbe
    clear h2 hbe HDL HDT HTU HLK HIL HNL HO HLV HBOX HD
    go_enter Try.func18, Try.ntmps18
    go_wp2
    exact bodyPost_ret (v := ansV (5, 0, 0, 0)) (results_cell_row Try.results18 _ _ (w.heap.size + 1) 40 #[.int .i64 5, .int .i64 0, .int .i64 0, .int .i64 0] (0, 0) _ rfl HF.out Try.underlying40 rfl info_ans) rfl ⟨rfl, HW.out _ HB.out, Spare.of_below HB.out⟩
  by_cases a3 : kind = 14
  · obtain rfl : D = (S, 0, 0, 0, 0) := HD.out.trans ((if_neg (by omega)).trans (if_pos a3))
    subst a3
    have h2 := own_two (w := w) (xs := [.int .i64 14, .int .i64 proc, .int .i64 page, .int .i64 count, .int .i64 rights, .int .i64 key, .bool tagged, .int .i64 draw, .int .i64 addr, .int .i64 size, .int .i64 value, .int .i64 tag]) (ys := [.int .i64 0, .int .i64 0, .int .i64 0, .int .i64 0]) (e := 24) (e' := 40) (Below.refl _ _)
    have hbe : Below w.heap.size w ((w.alloc (.cells #[.int .i64 14, .int .i64 proc, .int .i64 page, .int .i64 count, .int .i64 rights, .int .i64 key, .bool tagged, .int .i64 draw, .int .i64 addr, .int .i64 size, .int .i64 value, .int .i64 tag] 24)).alloc (.cells #[.int .i64 0, .int .i64 0, .int .i64 0, .int .i64 0] 40)) := ((Below.refl _ _).alloc (Nat.le_refl _) _).alloc (by simp) _
    have HF : Hid _ := h2.2
    have HB : Hid _ := hbe
    clear h2 hbe HDL HDT HTU HLK HIL HNL HO HLV HBOX HD
    go_enter Try.func18, Try.ntmps18
    go_wp2
    exact bodyPost_ret (v := ansV (0, 0, 0, 0)) (results_cell_row Try.results18 _ _ (w.heap.size + 1) 40 #[.int .i64 0, .int .i64 0, .int .i64 0, .int .i64 0] (0, 0) _ rfl HF.out Try.underlying40 rfl info_ans) rfl ⟨rfl, HW.out _ HB.out, Spare.of_below HB.out⟩
  have a3d : (kind == 14) = false := by simpa using a3
  have HD2 : Hid (proc < 0 ∨ 3 < proc ∨ (S proc.toNat).live = false → D = (S, 3, 0, 0, 0)) := fun h => HD.out.trans ((if_neg (by omega)).trans ((if_neg a3).trans (if_pos h)))
  clear HD
  by_cases p0 : proc < 0
  · obtain rfl : D = (S, 3, 0, 0, 0) := HD2.out (Or.inl p0)
    clear HD2 HDL HDT HTU HLK HIL HNL HO HLV
    go_enter Try.func18, Try.ntmps18
    go_wp2_with fail
    go_quiet (fail)
    have hbq : Below ((w.alloc (.cells #[.int .i64 kind, .int .i64 proc, .int .i64 page, .int .i64 count, .int .i64 rights, .int .i64 key, .bool tagged, .int .i64 draw, .int .i64 addr, .int .i64 size, .int .i64 value, .int .i64 tag] 24)).alloc (.cells #[.int .i64 0, .int .i64 0, .int .i64 0, .int .i64 0] 40)).heap.size ((w.alloc (.cells #[.int .i64 kind, .int .i64 proc, .int .i64 page, .int .i64 count, .int .i64 rights, .int .i64 key, .bool tagged, .int .i64 draw, .int .i64 addr, .int .i64 size, .int .i64 value, .int .i64 tag] 24)).alloc (.cells #[.int .i64 0, .int .i64 0, .int .i64 0, .int .i64 0] 40)) (((w.alloc (.cells #[.int .i64 kind, .int .i64 proc, .int .i64 page, .int .i64 count, .int .i64 rights, .int .i64 key, .bool tagged, .int .i64 draw, .int .i64 addr, .int .i64 size, .int .i64 value, .int .i64 tag] 24)).alloc (.cells #[.int .i64 0, .int .i64 0, .int .i64 0, .int .i64 0] 40)).drewN nq) := below_drewK (Below.refl _ _) _
    generalize ((w.alloc (.cells #[.int .i64 kind, .int .i64 proc, .int .i64 page, .int .i64 count, .int .i64 rights, .int .i64 key, .bool tagged, .int .i64 draw, .int .i64 addr, .int .i64 size, .int .i64 value, .int .i64 tag] 24)).alloc (.cells #[.int .i64 0, .int .i64 0, .int .i64 0, .int .i64 0] 40)).drewN nq = wB at hbq ⊢
    obtain ⟨hbx, hra, hbw⟩ := HBOX.out _ hbq; obtain ⟨⟨b0, b1, b2, b3, b4, b5⟩, b6, b7, b8, b9, b10, b11⟩ := hbx.twelve; clear hbx; obtain ⟨⟨x0, x1, x2, x3⟩, y0, y1, y2, y3⟩ := hra.quadf; have hlt := hra.lt
    go_wp2
    obtain ⟨f1, f2, f3⟩ := (HW.out _ hbw).ans (Spare.of_below hbw) hra (Nat.le_succ _) hne (.int .i64 3) (.int .i64 0) (.int .i64 0) (.int .i64 0)
    exact bodyPost_ret (v := ansV (3, 0, 0, 0)) (results_cell_row Try.results18 _ _ (w.heap.size + 1) 40 #[.int .i64 3, .int .i64 0, .int .i64 0, .int .i64 0] (0, 0) _ rfl f3 Try.underlying40 rfl info_ans) rfl ⟨rfl, f1, f2⟩
  by_cases p3 : 3 < proc
  · obtain rfl : D = (S, 3, 0, 0, 0) := HD2.out (Or.inr (Or.inl p3))
    have p0d : decide (proc < 0) = false := by simpa using p0
    have p3d : decide (proc ≥ 4) = true := by simp; omega
    clear HD2 HDL HDT HTU HLK HIL HNL HO HLV
    go_enter Try.func18, Try.ntmps18
    go_wp2_with fail
    go_quiet (fail)
    have hbq : Below ((w.alloc (.cells #[.int .i64 kind, .int .i64 proc, .int .i64 page, .int .i64 count, .int .i64 rights, .int .i64 key, .bool tagged, .int .i64 draw, .int .i64 addr, .int .i64 size, .int .i64 value, .int .i64 tag] 24)).alloc (.cells #[.int .i64 0, .int .i64 0, .int .i64 0, .int .i64 0] 40)).heap.size ((w.alloc (.cells #[.int .i64 kind, .int .i64 proc, .int .i64 page, .int .i64 count, .int .i64 rights, .int .i64 key, .bool tagged, .int .i64 draw, .int .i64 addr, .int .i64 size, .int .i64 value, .int .i64 tag] 24)).alloc (.cells #[.int .i64 0, .int .i64 0, .int .i64 0, .int .i64 0] 40)) (((w.alloc (.cells #[.int .i64 kind, .int .i64 proc, .int .i64 page, .int .i64 count, .int .i64 rights, .int .i64 key, .bool tagged, .int .i64 draw, .int .i64 addr, .int .i64 size, .int .i64 value, .int .i64 tag] 24)).alloc (.cells #[.int .i64 0, .int .i64 0, .int .i64 0, .int .i64 0] 40)).drewN nq) := below_drewK (Below.refl _ _) _
    generalize ((w.alloc (.cells #[.int .i64 kind, .int .i64 proc, .int .i64 page, .int .i64 count, .int .i64 rights, .int .i64 key, .bool tagged, .int .i64 draw, .int .i64 addr, .int .i64 size, .int .i64 value, .int .i64 tag] 24)).alloc (.cells #[.int .i64 0, .int .i64 0, .int .i64 0, .int .i64 0] 40)).drewN nq = wB at hbq ⊢
    obtain ⟨hbx, hra, hbw⟩ := HBOX.out _ hbq; obtain ⟨⟨b0, b1, b2, b3, b4, b5⟩, b6, b7, b8, b9, b10, b11⟩ := hbx.twelve; clear hbx; obtain ⟨⟨x0, x1, x2, x3⟩, y0, y1, y2, y3⟩ := hra.quadf; have hlt := hra.lt
    go_wp2
    obtain ⟨f1, f2, f3⟩ := (HW.out _ hbw).ans (Spare.of_below hbw) hra (Nat.le_succ _) hne (.int .i64 3) (.int .i64 0) (.int .i64 0) (.int .i64 0)
    exact bodyPost_ret (v := ansV (3, 0, 0, 0)) (results_cell_row Try.results18 _ _ (w.heap.size + 1) 40 #[.int .i64 3, .int .i64 0, .int .i64 0, .int .i64 0] (0, 0) _ rfl f3 Try.underlying40 rfl info_ans) rfl ⟨rfl, f1, f2⟩
  obtain ⟨k, rfl⟩ : ∃ k : Nat, proc = k := ⟨proc.toNat, by omega⟩
  have hk : k < 4 := by omega
  have HD3 : Hid ((S k).live = false → D = (S, 3, 0, 0, 0)) := fun h => HD2.out (Or.inr (Or.inr (by rw [Int.toNat_natCast]; exact h)))
  have hlv := HLV.out k hk w (Below.refl _ _)
  have p0d : decide ((k : Int) < 0) = false := by simp
  have p3d : decide ((k : Int) ≥ 4) = false := by simp; omega
  clear HD2
  obtain ⟨lv, hlv2⟩ : ∃ lv, lv = (S k).live := ⟨_, rfl⟩
  rw [← hlv2] at HD3 hlv
  cases lv
  · obtain rfl : D = (S, 3, 0, 0, 0) := HD3.out (by first | rfl | trivial)
    clear HD3 HDL HDT HTU HLK HIL HNL HO HLV hlv2
    go_enter Try.func18, Try.ntmps18
    go_wp2_with fail
    go_quiet (fail)
    have hbq : Below ((w.alloc (.cells #[.int .i64 kind, .int .i64 (k : Int), .int .i64 page, .int .i64 count, .int .i64 rights, .int .i64 key, .bool tagged, .int .i64 draw, .int .i64 addr, .int .i64 size, .int .i64 value, .int .i64 tag] 24)).alloc (.cells #[.int .i64 0, .int .i64 0, .int .i64 0, .int .i64 0] 40)).heap.size ((w.alloc (.cells #[.int .i64 kind, .int .i64 (k : Int), .int .i64 page, .int .i64 count, .int .i64 rights, .int .i64 key, .bool tagged, .int .i64 draw, .int .i64 addr, .int .i64 size, .int .i64 value, .int .i64 tag] 24)).alloc (.cells #[.int .i64 0, .int .i64 0, .int .i64 0, .int .i64 0] 40)) (((w.alloc (.cells #[.int .i64 kind, .int .i64 (k : Int), .int .i64 page, .int .i64 count, .int .i64 rights, .int .i64 key, .bool tagged, .int .i64 draw, .int .i64 addr, .int .i64 size, .int .i64 value, .int .i64 tag] 24)).alloc (.cells #[.int .i64 0, .int .i64 0, .int .i64 0, .int .i64 0] 40)).drewN nq) := below_drewK (Below.refl _ _) _
    generalize ((w.alloc (.cells #[.int .i64 kind, .int .i64 (k : Int), .int .i64 page, .int .i64 count, .int .i64 rights, .int .i64 key, .bool tagged, .int .i64 draw, .int .i64 addr, .int .i64 size, .int .i64 value, .int .i64 tag] 24)).alloc (.cells #[.int .i64 0, .int .i64 0, .int .i64 0, .int .i64 0] 40)).drewN nq = wB at hbq ⊢
    obtain ⟨hbx, hra, hbw⟩ := HBOX.out _ hbq; obtain ⟨⟨b0, b1, b2, b3, b4, b5⟩, b6, b7, b8, b9, b10, b11⟩ := hbx.twelve; clear hbx; obtain ⟨⟨x0, x1, x2, x3⟩, y0, y1, y2, y3⟩ := hra.quadf; have hlt := hra.lt
    go_wp2
    obtain ⟨f1, f2, f3⟩ := (HW.out _ hbw).ans (Spare.of_below hbw) hra (Nat.le_succ _) hne (.int .i64 3) (.int .i64 0) (.int .i64 0) (.int .i64 0)
    exact bodyPost_ret (v := ansV (3, 0, 0, 0)) (results_cell_row Try.results18 _ _ (w.heap.size + 1) 40 #[.int .i64 3, .int .i64 0, .int .i64 0, .int .i64 0] (0, 0) _ rfl f3 Try.underlying40 rfl info_ans) rfl ⟨rfl, f1, f2⟩
  have HDL2 : Hid (IL = true → D = (upd S k (look14 (S k) (O12.mk kind (k : Int) page count rights key tagged draw addr size value tag)).1, (look14 (S k) (O12.mk kind (k : Int) page count rights key tagged draw addr size value tag)).2)) := fun h => HDL.out k (by omega) (by omega) rfl hk hlv2.symm h
  have HDT2 : Hid (IL = false → D = (tuS S k (O12.mk kind (k : Int) page count rights key tagged draw addr size value tag), tuE S k (O12.mk kind (k : Int) page count rights key tagged draw addr size value tag), tuV S k (O12.mk kind (k : Int) page count rights key tagged draw addr size value tag), 0, 0)) := fun h => HDT.out k (by omega) (by omega) rfl hk hlv2.symm h
  have HLK2 : Hid _ := HLK.out k hk
  have HTU2 : Hid _ := HTU.out k hk
  have HNL2 : Hid (IL = false → 1 ≤ kind ∧ kind ≤ 9) := fun h => HNL.out h (by omega) (by omega)
  clear HDL HDT HLK HTU HNL HO HLV HD3 hlv2
  generalize look14 (S k) (O12.mk kind (k : Int) page count rights key tagged draw addr size value tag) = LK at *
  generalize tuS S k (O12.mk kind (k : Int) page count rights key tagged draw addr size value tag) = TS at *
  generalize tuE S k (O12.mk kind (k : Int) page count rights key tagged draw addr size value tag) = TE at *
  generalize tuV S k (O12.mk kind (k : Int) page count rights key tagged draw addr size value tag) = TV at *
  go_enter Try.func18, Try.ntmps18
  go_wp2_with fail
  go_quiet (fail)
  have hbq : Below ((w.alloc (.cells #[.int .i64 kind, .int .i64 (k : Int), .int .i64 page, .int .i64 count, .int .i64 rights, .int .i64 key, .bool tagged, .int .i64 draw, .int .i64 addr, .int .i64 size, .int .i64 value, .int .i64 tag] 24)).alloc (.cells #[.int .i64 0, .int .i64 0, .int .i64 0, .int .i64 0] 40)).heap.size ((w.alloc (.cells #[.int .i64 kind, .int .i64 (k : Int), .int .i64 page, .int .i64 count, .int .i64 rights, .int .i64 key, .bool tagged, .int .i64 draw, .int .i64 addr, .int .i64 size, .int .i64 value, .int .i64 tag] 24)).alloc (.cells #[.int .i64 0, .int .i64 0, .int .i64 0, .int .i64 0] 40)) (((w.alloc (.cells #[.int .i64 kind, .int .i64 (k : Int), .int .i64 page, .int .i64 count, .int .i64 rights, .int .i64 key, .bool tagged, .int .i64 draw, .int .i64 addr, .int .i64 size, .int .i64 value, .int .i64 tag] 24)).alloc (.cells #[.int .i64 0, .int .i64 0, .int .i64 0, .int .i64 0] 40)).drewN nq) := below_drewK (Below.refl _ _) _
  generalize ((w.alloc (.cells #[.int .i64 kind, .int .i64 (k : Int), .int .i64 page, .int .i64 count, .int .i64 rights, .int .i64 key, .bool tagged, .int .i64 draw, .int .i64 addr, .int .i64 size, .int .i64 value, .int .i64 tag] 24)).alloc (.cells #[.int .i64 0, .int .i64 0, .int .i64 0, .int .i64 0] 40)).drewN nq = wB at hbq ⊢
  obtain ⟨hbx, hra, hbw⟩ := HBOX.out _ hbq; obtain ⟨⟨b0, b1, b2, b3, b4, b5⟩, b6, b7, b8, b9, b10, b11⟩ := hbx.twelve; clear hbx; obtain ⟨⟨x0, x1, x2, x3⟩, y0, y1, y2, y3⟩ := hra.quadf; have hlt := hra.lt
  have hlv3 : wB.cell? ⟨g, k * 4362, none⟩ = some (.bool true) := (hbw.cell (cell_lt hlv)).trans hlv
  go_wp2_with fail
  go_quiet (fail)
  have hbq2 : Below ((w.alloc (.cells #[.int .i64 kind, .int .i64 (k : Int), .int .i64 page, .int .i64 count, .int .i64 rights, .int .i64 key, .bool tagged, .int .i64 draw, .int .i64 addr, .int .i64 size, .int .i64 value, .int .i64 tag] 24)).alloc (.cells #[.int .i64 0, .int .i64 0, .int .i64 0, .int .i64 0] 40)).heap.size ((w.alloc (.cells #[.int .i64 kind, .int .i64 (k : Int), .int .i64 page, .int .i64 count, .int .i64 rights, .int .i64 key, .bool tagged, .int .i64 draw, .int .i64 addr, .int .i64 size, .int .i64 value, .int .i64 tag] 24)).alloc (.cells #[.int .i64 0, .int .i64 0, .int .i64 0, .int .i64 0] 40)) (wB.drewN nq) := below_drewK hbq _
  clear b0 b1 b2 b3 b4 b5 b6 b7 b8 b9 b10 b11 x0 x1 x2 x3 y0 y1 y2 y3 hlt hlv hlv3 hra hbw hbq
  generalize wB.drewN nq = wC at hbq2 ⊢
  obtain ⟨hbx, hra, hbw⟩ := HBOX.out _ hbq2
  obtain ⟨⟨b0, b1, b2, b3, b4, b5⟩, b6, b7, b8, b9, b10, b11⟩ := hbx.twelve
  obtain ⟨⟨x0, x1, x2, x3⟩, y0, y1, y2, y3⟩ := hra.quadf
  have hlt := hra.lt
  clear hbx
  cases IL
  · obtain rfl := HDT2.out (by first | rfl | trivial)
    have HTU3 : Hid _ := HTU2.out (HNL2.out (by first | rfl | trivial))
    clear HDT2 HDL2 HLK2 HTU2 HNL2
    go_wp2_with (first
      | (go_at_call 25; refine (HIL.out _).mono ?_; rintro e w3 ⟨rfl, rfl⟩)
      | (go_at_call 27; refine (HTU3.out _ hbw).mono ?_; rintro e w4 ⟨rfl, hw4, hsp4⟩; have hra4 := hsp4.row hra hne; clear x0 x1 x2 x3 y0 y1 y2 y3 b0 b1 b2 b3 b4 b5 b6 b7 b8 b9 b10 b11 hlt; obtain ⟨⟨x0, x1, x2, x3⟩, y0, y1, y2, y3⟩ := hra4.quadf; have hlt := hra4.lt))
    obtain ⟨f1, f2, f3⟩ := (hw4).ans ((Spare.of_below hbw).trans hsp4) hra4 (Nat.le_succ _) hne (.int .i64 TE) (.int .i64 TV) (.int .i64 0) (.int .i64 0)
    exact bodyPost_ret (v := ansV (TE, TV, 0, 0)) (results_cell_row Try.results18 _ _ (w.heap.size + 1) 40 #[.int .i64 TE, .int .i64 TV, .int .i64 0, .int .i64 0] (0, 0) _ rfl f3 Try.underlying40 rfl info_ans) rfl ⟨rfl, f1, f2⟩
  · obtain rfl := HDL2.out (by first | rfl | trivial)
    clear HDT2 HDL2 HTU2 HNL2
    obtain ⟨LP, l1, l2, l3, l4⟩ := LK
    simp only at HLK2
    go_wp2_with (first
      | (go_at_call 25; refine (HIL.out _).mono ?_; rintro e w3 ⟨rfl, rfl⟩)
      | (go_at_call 26; refine (HLK2.out _ hbw).mono ?_; rintro e w4 ⟨rfl, hw4, hsp4⟩; have hra4 := hsp4.row hra hne; clear x0 x1 x2 x3 y0 y1 y2 y3 b0 b1 b2 b3 b4 b5 b6 b7 b8 b9 b10 b11 hlt; obtain ⟨⟨x0, x1, x2, x3⟩, y0, y1, y2, y3⟩ := hra4.quadf; have hlt := hra4.lt))
    obtain ⟨f1, f2, f3⟩ := (hw4).ans ((Spare.of_below hbw).trans hsp4) hra4 (Nat.le_succ _) hne (.int .i64 l1) (.int .i64 l2) (.int .i64 l3) (.int .i64 l4)
    exact bodyPost_ret (v := ansV (l1, l2, l3, l4)) (results_cell_row Try.results18 _ _ (w.heap.size + 1) 40 #[.int .i64 l1, .int .i64 l2, .int .i64 l3, .int .i64 l4] (0, 0) _ rfl f3 Try.underlying40 rfl info_ans) rfl ⟨rfl, f1, f2⟩

end Go.Proofs.Ytlhmfbkpmfofiai

/- The contract of flat.world.do: one thing done. -/
import Derived.Test.YtbiipnojhjhejaaFlat12
namespace Go.Proofs.Ytbiipnojhjhejaa
set_option maxRecDepth 100000
open Go.RowKit
set_option linter.unusedSimpArgs false
set_option linter.unusedVariables false

theorem do_look {S : W4} {o : O12} {k : Nat} (h1 : 1 ≤ o.kind) (h2 : o.kind ≤ 13) (hp : o.proc = k) (hk : k < 4) (hl : (S k).live = true) (hL : isLk o.kind = true) : do14 S o = (upd S k (look14 (S k) o).1, (look14 (S k) o).2) := by
  have e : o.proc.toNat = k := by omega
  unfold do14
  rw [e, if_neg (by omega), if_neg (by omega), if_neg (by rw [hl]; intro h; rcases h with h | h | h; omega; omega; cases h), if_pos hL]

theorem do_turn {S : W4} {o : O12} {k : Nat} (h1 : 1 ≤ o.kind) (h2 : o.kind ≤ 13) (hp : o.proc = k) (hk : k < 4) (hl : (S k).live = true) (hL : isLk o.kind = false) : do14 S o = (tuS S k o, tuE S k o, tuV S k o, 0, 0) := by
  have e : o.proc.toNat = k := by omega
  unfold do14 tuS tuE tuV
  rw [e, if_neg (by omega), if_neg (by omega), if_neg (by rw [hl]; intro h; rcases h with h | h | h; omega; omega; cases h), if_neg (by rw [hL]; decide)]
  split <;> rfl

theorem not_look {x : Int} (h1 : 1 ≤ x) (h2 : x ≤ 13) (h : isLk x = false) : 1 ≤ x ∧ x ≤ 9 := by
  unfold isLk at h
  simp at h
  omega

/-- What memory is, behind one thing done. -/
def doS {σ : Type} (M : Mem σ) (S : W4) (s : σ) (o : O12) : σ :=
  if o.kind < 1 ∨ 14 < o.kind then s else if o.kind = 14 then M.sRecl s o.count else if o.proc < 0 ∨ 3 < o.proc ∨ (S o.proc.toNat).live = false then s else if isLk o.kind then lookS M S s o.proc.toNat o else turS M S s o.proc.toNat o

set_option maxHeartbeats 3200000 in
theorem do14_any {σ : Type} (M : Mem σ) (base g : Nat) (S : W4) (s : σ) (o : O12) (hw1 : bdI o.count) (hw2 : bdI o.size) (w : World) (h : WM M base g w S s) (hi : Inv S) :
    Calls Try.prog 32 #[.pointer (some ⟨g, 0, none⟩), opV o] w fun e w' => e = .returned (ansV (do14 S o).2) ∧ WM M base g w' (do14 S o).1 (doS M S s o) ∧ MKg M g w w' := by
  have hg := h.wok.glt
  have HD : Hid (do14 S o = if o.kind < 1 ∨ 14 < o.kind then (S, 5, 0, 0, 0) else if o.kind = 14 then (S, 0, 0, 0, 0) else if o.proc < 0 ∨ 3 < o.proc ∨ (S o.proc.toNat).live = false then (S, 3, 0, 0, 0)
    else if isLk o.kind then (upd S o.proc.toNat (look14 (S o.proc.toNat) o).1, (look14 (S o.proc.toNat) o).2)
    else if o.kind = 8 then ((fork14 S (S o.proc.toNat)).1, (fork14 S (S o.proc.toNat)).2.2, (fork14 S (S o.proc.toNat)).2.1, 0, 0)
    else (upd S o.proc.toNat (own14 S (S o.proc.toNat) o).1, (own14 S (S o.proc.toNat) o).2.2, (own14 S (S o.proc.toNat) o).2.1, 0, 0)) := rfl
  have HS : Hid (doS M S s o = if o.kind < 1 ∨ 14 < o.kind then s else if o.kind = 14 then M.sRecl s o.count else if o.proc < 0 ∨ 3 < o.proc ∨ (S o.proc.toNat).live = false then s else if isLk o.kind then lookS M S s o.proc.toNat o else turS M S s o.proc.toNat o) := rfl
  have HDL : Hid (∀ k : Nat, 1 ≤ o.kind → o.kind ≤ 13 → o.proc = k → k < 4 → (S k).live = true → isLk o.kind = true → do14 S o = (upd S k (look14 (S k) o).1, (look14 (S k) o).2)) := fun k => do_look
  have HDT : Hid (∀ k : Nat, 1 ≤ o.kind → o.kind ≤ 13 → o.proc = k → k < 4 → (S k).live = true → isLk o.kind = false → do14 S o = (tuS S k o, tuE S k o, tuV S k o, 0, 0)) := fun k => do_turn
  have HSL : Hid (∀ k : Nat, 1 ≤ o.kind → o.kind ≤ 13 → o.proc = k → k < 4 → (S k).live = true → doS M S s o = if isLk o.kind then lookS M S s k o else turS M S s k o) := fun k h1 h2 h3 h4 h5 => by
    have : o.proc.toNat = k := by omega
    unfold doS
    rw [if_neg (by omega), if_neg (by omega), if_neg (by rw [this, h5]; simp; omega), this]
  have HLK : Hid (∀ (k : Nat), k < 4 → (S k).live = true → o.proc = k → ∀ w1 st, LookI M base g w w.heap.size [.int .i64 o.kind, .int .i64 o.proc, .int .i64 o.page, .int .i64 o.count, .int .i64 o.rights, .int .i64 o.key, .bool o.tagged, .int .i64 o.draw, .int .i64 o.addr, .int .i64 o.size, .int .i64 o.value, .int .i64 o.tag] S st w1 → st = s → Calls Try.prog 37 #[.pointer (some ⟨g, 0, none⟩), opV o] w1 fun e w' => e = .returned (ansV (look14 (S k) o).2) ∧ LookI M base g w w.heap.size [.int .i64 o.kind, .int .i64 o.proc, .int .i64 o.page, .int .i64 o.count, .int .i64 o.rights, .int .i64 o.key, .bool o.tagged, .int .i64 o.draw, .int .i64 o.addr, .int .i64 o.size, .int .i64 o.value, .int .i64 o.tag] (upd S k (look14 (S k) o).1) (lookS M S s k o) w') := fun k hk hl hp w1 st hL hst => by
    subst hst
    exact (look_any M base g S st k hk hl o hp hw1 hw2 w1 hL.wm hi).mono fun e w' ⟨he, hm, hkk⟩ => ⟨he, hL.step hg hm hkk⟩
  have HTU : Hid (∀ (k : Nat), k < 4 → (S k).live = true → o.proc = k → 1 ≤ o.kind ∧ o.kind ≤ 9 → ∀ w1 st, LookI M base g w w.heap.size [.int .i64 o.kind, .int .i64 o.proc, .int .i64 o.page, .int .i64 o.count, .int .i64 o.rights, .int .i64 o.key, .bool o.tagged, .int .i64 o.draw, .int .i64 o.addr, .int .i64 o.size, .int .i64 o.value, .int .i64 o.tag] S st w1 → st = s → Calls Try.prog 38 #[.pointer (some ⟨g, 0, none⟩), opV o] w1 fun e w' => e = .returned (.tuple #[.int .i64 (tuV S k o), .int .i64 (tuE S k o)]) ∧ LookI M base g w w.heap.size [.int .i64 o.kind, .int .i64 o.proc, .int .i64 o.page, .int .i64 o.count, .int .i64 o.rights, .int .i64 o.key, .bool o.tagged, .int .i64 o.draw, .int .i64 o.addr, .int .i64 o.size, .int .i64 o.value, .int .i64 o.tag] (tuS S k o) (turS M S s k o) w') := fun k hk hl hp hkd w1 st hL hst => by
    subst hst
    exact (turn14_any M base g S st k hk hl o hp hw1 hkd w1 hL.wm hi).mono fun e w' ⟨he, hm, hkk⟩ => ⟨he, hL.step hg hm hkk⟩
  have HRC : Hid (∀ w1, LookI M base g w w.heap.size [.int .i64 o.kind, .int .i64 o.proc, .int .i64 o.page, .int .i64 o.count, .int .i64 o.rights, .int .i64 o.key, .bool o.tagged, .int .i64 o.draw, .int .i64 o.addr, .int .i64 o.size, .int .i64 o.value, .int .i64 o.tag] S s w1 → Calls Try.prog M.fRecl #[.pointer (some M.pm), .int .i64 o.count] w1.drew fun e w' => (∃ v, e = .returned v) ∧ LookI M base g w w.heap.size [.int .i64 o.kind, .int .i64 o.proc, .int .i64 o.page, .int .i64 o.count, .int .i64 o.rights, .int .i64 o.key, .bool o.tagged, .int .i64 o.draw, .int .i64 o.addr, .int .i64 o.size, .int .i64 o.value, .int .i64 o.tag] S (M.sRecl s o.count) w') := fun w1 hL => by
    obtain ⟨r1, r2⟩ := M.recl (n := o.count) (M.below hL.wm.ok (Below.refl _ _).drew) hL.wm.rel (vw_good hi) hw1
    refine r2.mono ?_
    rintro e w' ⟨he, hok, hmk⟩
    exact ⟨he, hL.step hg ⟨(hL.wm.wok.below (Below.refl _ _).drew).byMK hmk M.hwr.1 M.hwr.2.1, hok, r1⟩ ((MKg.of_below (Below.refl _ _).drew).trans (MKg.of_mk hmk))⟩
  have HIL : Hid (∀ w1, Calls Try.prog 36 #[.int .i64 o.kind] w1 fun e w' => e = .returned (.bool (isLk o.kind)) ∧ w1 = w') := fun w1 => isLook_any o.kind w1
  have HLV : Hid (∀ k : Nat, k < 4 → ∀ w1, Below w.heap.size w w1 → w1.cell? ⟨g, k * 10, none⟩ = some (.bool (S k).live)) := fun k hk w1 hb => (h.wok.below hb).live hk
  have HBOX : Hid (∀ w1, Below ((w.alloc (.cells #[.int .i64 o.kind, .int .i64 o.proc, .int .i64 o.page, .int .i64 o.count, .int .i64 o.rights, .int .i64 o.key, .bool o.tagged, .int .i64 o.draw, .int .i64 o.addr, .int .i64 o.size, .int .i64 o.value, .int .i64 o.tag] 24)).alloc (.cells #[.int .i64 0, .int .i64 0, .int .i64 0, .int .i64 0] 40)).heap.size ((w.alloc (.cells #[.int .i64 o.kind, .int .i64 o.proc, .int .i64 o.page, .int .i64 o.count, .int .i64 o.rights, .int .i64 o.key, .bool o.tagged, .int .i64 o.draw, .int .i64 o.addr, .int .i64 o.size, .int .i64 o.value, .int .i64 o.tag] 24)).alloc (.cells #[.int .i64 0, .int .i64 0, .int .i64 0, .int .i64 0] 40)) w1 → LookI M base g w w.heap.size [.int .i64 o.kind, .int .i64 o.proc, .int .i64 o.page, .int .i64 o.count, .int .i64 o.rights, .int .i64 o.key, .bool o.tagged, .int .i64 o.draw, .int .i64 o.addr, .int .i64 o.size, .int .i64 o.value, .int .i64 o.tag] S s w1) := fun w1 hb => by
    have h2 := own_two (w := w) (xs := [.int .i64 o.kind, .int .i64 o.proc, .int .i64 o.page, .int .i64 o.count, .int .i64 o.rights, .int .i64 o.key, .bool o.tagged, .int .i64 o.draw, .int .i64 o.addr, .int .i64 o.size, .int .i64 o.value, .int .i64 o.tag]) (ys := [.int .i64 0, .int .i64 0, .int .i64 0, .int .i64 0]) (e := 24) (e' := 40) hb
    have hb0 : Below w.heap.size w w1 := (((Below.refl _ _).alloc (Nat.le_refl _) _).alloc (by simp) _).trans (hb.mono (by simp; omega))
    exact ⟨h.below hb0, MKg.of_below hb0, h2.1, h2.2⟩
  have HBB : Hid (∀ w1, Below ((w.alloc (.cells #[.int .i64 o.kind, .int .i64 o.proc, .int .i64 o.page, .int .i64 o.count, .int .i64 o.rights, .int .i64 o.key, .bool o.tagged, .int .i64 o.draw, .int .i64 o.addr, .int .i64 o.size, .int .i64 o.value, .int .i64 o.tag] 24)).alloc (.cells #[.int .i64 0, .int .i64 0, .int .i64 0, .int .i64 0] 40)).heap.size ((w.alloc (.cells #[.int .i64 o.kind, .int .i64 o.proc, .int .i64 o.page, .int .i64 o.count, .int .i64 o.rights, .int .i64 o.key, .bool o.tagged, .int .i64 o.draw, .int .i64 o.addr, .int .i64 o.size, .int .i64 o.value, .int .i64 o.tag] 24)).alloc (.cells #[.int .i64 0, .int .i64 0, .int .i64 0, .int .i64 0] 40)) w1 → Below w.heap.size w w1) := fun w1 hb => (((Below.refl _ _).alloc (Nat.le_refl _) _).alloc (by simp) _).trans (hb.mono (by simp; omega))
  have HM : Hid (∀ w1, Below w.heap.size w w1 → WM M base g w1 S s) := fun w1 hb => h.below hb
  clear h hi
  obtain ⟨D, hD⟩ : ∃ D, D = do14 S o := ⟨_, rfl⟩
  rw [← hD] at HD HDL HDT ⊢
  clear hD
  obtain ⟨Z, hZ⟩ : ∃ Z, Z = doS M S s o := ⟨_, rfl⟩
  rw [← hZ] at HS HSL ⊢
  clear hZ
  obtain ⟨IL, hIL⟩ : ∃ b, b = isLk o.kind := ⟨_, rfl⟩
  rw [← hIL] at HIL HDL HDT HSL
  have HNL : Hid (IL = false → 1 ≤ o.kind → o.kind ≤ 13 → 1 ≤ o.kind ∧ o.kind ≤ 9) := fun h h1 h2 => not_look h1 h2 (by rw [← hIL]; exact h)
  clear hIL
  obtain ⟨kind, proc, page, count, rights, key, tagged, draw, addr, size, value, tag⟩ := o
  simp only at HD HDL HDT HIL HNL HTU hw1 hw2 HS HSL HLK HRC HBOX HBB
  by_cases a1 : kind < 1
  · obtain rfl : D = (S, 5, 0, 0, 0) := HD.out.trans (if_pos (Or.inl a1))
    obtain rfl : Z = s := HS.out.trans (if_pos (Or.inl a1))
    have HB5 : Hid (Below w.heap.size w ((w.alloc (.cells #[.int .i64 kind, .int .i64 proc, .int .i64 page, .int .i64 count, .int .i64 rights, .int .i64 key, .bool tagged, .int .i64 draw, .int .i64 addr, .int .i64 size, .int .i64 value, .int .i64 tag] 24)).alloc (.cells #[.int .i64 5, .int .i64 0, .int .i64 0, .int .i64 0] 40)) ∧ OwnRow ((w.alloc (.cells #[.int .i64 kind, .int .i64 proc, .int .i64 page, .int .i64 count, .int .i64 rights, .int .i64 key, .bool tagged, .int .i64 draw, .int .i64 addr, .int .i64 size, .int .i64 value, .int .i64 tag] 24)).alloc (.cells #[.int .i64 5, .int .i64 0, .int .i64 0, .int .i64 0] 40)) (w.heap.size + 1) 40 [.int .i64 5, .int .i64 0, .int .i64 0, .int .i64 0]) :=
      ⟨((Below.refl _ _).alloc (Nat.le_refl _) _).alloc (by simp) _, (own_two (w := w) (xs := [.int .i64 kind, .int .i64 proc, .int .i64 page, .int .i64 count, .int .i64 rights, .int .i64 key, .bool tagged, .int .i64 draw, .int .i64 addr, .int .i64 size, .int .i64 value, .int .i64 tag]) (ys := [.int .i64 5, .int .i64 0, .int .i64 0, .int .i64 0]) (e := 24) (e' := 40) (Below.refl _ _)).2⟩
    clear HDL HDT HTU HLK HIL HNL HLV HBOX HD HS HSL HRC HBB
    go_enter Try.func32, Try.ntmps32
    go_wp2
    exact bodyPost_ret (v := ansV (5, 0, 0, 0)) (results_cell_row Try.results32 _ _ (w.heap.size + 1) 40 #[.int .i64 5, .int .i64 0, .int .i64 0, .int .i64 0] (0, 0) _ rfl HB5.out.2 Try.underlying40 rfl info_ans) rfl ⟨rfl, HM.out _ HB5.out.1, MKg.of_below HB5.out.1⟩
  by_cases a2 : 14 < kind
  · obtain rfl : D = (S, 5, 0, 0, 0) := HD.out.trans (if_pos (Or.inr a2))
    obtain rfl : Z = s := HS.out.trans (if_pos (Or.inr a2))
    have HB5 : Hid (Below w.heap.size w ((w.alloc (.cells #[.int .i64 kind, .int .i64 proc, .int .i64 page, .int .i64 count, .int .i64 rights, .int .i64 key, .bool tagged, .int .i64 draw, .int .i64 addr, .int .i64 size, .int .i64 value, .int .i64 tag] 24)).alloc (.cells #[.int .i64 5, .int .i64 0, .int .i64 0, .int .i64 0] 40)) ∧ OwnRow ((w.alloc (.cells #[.int .i64 kind, .int .i64 proc, .int .i64 page, .int .i64 count, .int .i64 rights, .int .i64 key, .bool tagged, .int .i64 draw, .int .i64 addr, .int .i64 size, .int .i64 value, .int .i64 tag] 24)).alloc (.cells #[.int .i64 5, .int .i64 0, .int .i64 0, .int .i64 0] 40)) (w.heap.size + 1) 40 [.int .i64 5, .int .i64 0, .int .i64 0, .int .i64 0]) :=
      ⟨((Below.refl _ _).alloc (Nat.le_refl _) _).alloc (by simp) _, (own_two (w := w) (xs := [.int .i64 kind, .int .i64 proc, .int .i64 page, .int .i64 count, .int .i64 rights, .int .i64 key, .bool tagged, .int .i64 draw, .int .i64 addr, .int .i64 size, .int .i64 value, .int .i64 tag]) (ys := [.int .i64 5, .int .i64 0, .int .i64 0, .int .i64 0]) (e := 24) (e' := 40) (Below.refl _ _)).2⟩
    clear HDL HDT HTU HLK HIL HNL HLV HBOX HD HS HSL HRC HBB
    go_enter Try.func32, Try.ntmps32
    go_wp2
    exact bodyPost_ret (v := ansV (5, 0, 0, 0)) (results_cell_row Try.results32 _ _ (w.heap.size + 1) 40 #[.int .i64 5, .int .i64 0, .int .i64 0, .int .i64 0] (0, 0) _ rfl HB5.out.2 Try.underlying40 rfl info_ans) rfl ⟨rfl, HM.out _ HB5.out.1, MKg.of_below HB5.out.1⟩
  by_cases a3 : kind = 14
  · obtain rfl : D = (S, 0, 0, 0, 0) := HD.out.trans ((if_neg (by omega)).trans (if_pos a3))
    obtain rfl : Z = M.sRecl s count := HS.out.trans ((if_neg (by omega)).trans (if_pos a3))
    subst a3
    clear HDL HDT HTU HLK HIL HNL HLV HD HS HSL HBB
    have hm := fun w => (M.hm w).2.2.2.1
    have hcf := fun args w => (M.hf args w).2.2.2.1
    go_enter Try.func32, Try.ntmps32
    go_wp2_with fail
    have HA : Hid _ := HBOX.out _ (Below.refl _ _)
    have c3 := (LookI.op HA.out).twelve.1.2.2.2.1
    have cm := (LookI.wm HA.out).wok.mem
    clear HBOX
    generalize ((w.alloc (.cells #[.int .i64 14, .int .i64 proc, .int .i64 page, .int .i64 count, .int .i64 rights, .int .i64 key, .bool tagged, .int .i64 draw, .int .i64 addr, .int .i64 size, .int .i64 value, .int .i64 tag] 24)).alloc (.cells #[.int .i64 0, .int .i64 0, .int .i64 0, .int .i64 0] 40)) = wB at HA c3 cm ⊢
    refine wp_region_noPanic ?_
    refine wp_region_held_drew (S := (fun w' => w'.cell? ⟨g, 40, none⟩ = some (.iface M.mty (.pointer (some M.pm))) ∧ w'.cell? ⟨w.heap.size, 3, none⟩ = some (.int .i64 count))) (by kernel_rfl) (by exact ⟨cm, c3⟩) (fun hHeld => ?_)
    refine take_to 0 (some 19) (v := ?_) rfl rfl (by kernel_rfl) (by kernel_rfl) (by kernel_rfl) (fun _ _ _ h => h) (Or.inl ⟨by rfl, ?_⟩) (by assumption) ?_
    rotate_left
    · intro w hSw
      (try dsimp only at hSw)
      go_simp
      with_reducible rfl
    simp only [Act.put, List.setIfInBounds_toArray, List.set_cons_zero, List.set_cons_succ]
    refine take_to 1 (some 20) (v := ?_) rfl rfl (by kernel_rfl) (by kernel_rfl) (by kernel_rfl) (fun _ _ _ h => h) (Or.inl ⟨by rfl, ?_⟩) (by assumption) ?_
    rotate_left
    · intro w hSw
      (try dsimp only at hSw)
      go_simp
      with_reducible rfl
    simp only [Act.put, List.setIfInBounds_toArray, List.set_cons_zero, List.set_cons_succ]
    refine take_to 2 (some 21) (v := ?_) rfl rfl (by kernel_rfl) (by kernel_rfl) (by kernel_rfl) (fun _ _ _ h => h) (Or.inl ⟨by rfl, ?_⟩) (by assumption) ?_
    rotate_left
    · intro w hSw
      (try dsimp only at hSw)
      go_simp
      with_reducible rfl
    simp only [Act.put, List.setIfInBounds_toArray, List.set_cons_zero, List.set_cons_succ]
    refine take_to 3 (some 22) (v := ?_) rfl rfl (by kernel_rfl) (by kernel_rfl) (by kernel_rfl) (fun _ _ _ h => h) (Or.inl ⟨by rfl, ?_⟩) (by assumption) ?_
    rotate_left
    · intro w hSw
      (try dsimp only at hSw)
      go_simp
      with_reducible rfl
    simp only [Act.put, List.setIfInBounds_toArray, List.set_cons_zero, List.set_cons_succ]
    refine take_to 4 (some 23) (v := ?_) rfl rfl (by kernel_rfl) (by kernel_rfl) (by kernel_rfl) (fun _ _ _ h => h) (Or.inl ⟨by rfl, ?_⟩) (by assumption) ?_
    rotate_left
    · intro w hSw
      (try dsimp only at hSw)
      go_simp
      with_reducible rfl
    simp only [Act.put, List.setIfInBounds_toArray, List.set_cons_zero, List.set_cons_succ]
    refine take_to 5 (some 24) (v := ?_) rfl rfl (by kernel_rfl) (by kernel_rfl) (by kernel_rfl) (fun _ _ _ h => h) (Or.inl ⟨by rfl, ?_⟩) (by assumption) ?_
    rotate_left
    · intro w hSw
      (try dsimp only at hSw)
      go_simp
      with_reducible rfl
    simp only [Act.put, List.setIfInBounds_toArray, List.set_cons_zero, List.set_cons_succ]
    refine wpAnyH_ready (rs := [6]) (by kernel_rfl) (by simp) ?_
    refine AllReadyH.cons rfl (fun K hK => ?_) AllReadyH.nil
    go_simp
    refine Calls.mono (HRC.out _ HA.out) ?_
    rintro e w4 ⟨⟨v, rfl⟩, hL4⟩
    have HC : Hid _ := hL4
    clear hL4
    go_wp2_with fail
    refine hK.out _ _ (by exact ⟨(LookI.wm HC.out).wok.mem, by rw [OwnRow.cell (LookI.op HC.out)]; rfl⟩) (fun hHeld => ?_)
    clear hK K
    try simp only [Act.put, List.setIfInBounds_toArray, List.set_cons_zero, List.set_cons_succ]
    refine wpAnyH_done (by kernel_rfl) ?_ _
    refine NoPanic.normal ?_
    clear c3 cm
    obtain ⟨⟨b0, b1, b2, b3, b4, b5⟩, b6, b7, b8, b9, b10, b11⟩ := (LookI.op HC.out).twelve; obtain ⟨⟨x0, x1, x2, x3⟩, y0, y1, y2, y3⟩ := (LookI.ans HC.out).quadf; have hlt := (LookI.ans HC.out).lt
    go_wp2
    obtain ⟨f1, f2, f3⟩ := LookI.fin HC.out (Nat.le_refl _) (.int .i64 0) (.int .i64 0) (.int .i64 0) (.int .i64 0)
    exact bodyPost_ret (v := ansV (0, 0, 0, 0)) (results_cell_row Try.results32 _ _ (w.heap.size + 1) 40 #[.int .i64 0, .int .i64 0, .int .i64 0, .int .i64 0] (0, 0) _ rfl f3 Try.underlying40 rfl info_ans) rfl ⟨rfl, f1, f2⟩
  have a3d : (kind == 14) = false := by simpa using a3
  have HD2 : Hid (proc < 0 ∨ 3 < proc ∨ (S proc.toNat).live = false → D = (S, 3, 0, 0, 0) ∧ Z = s) := fun h => ⟨HD.out.trans ((if_neg (by omega)).trans ((if_neg a3).trans (if_pos h))), HS.out.trans ((if_neg (by omega)).trans ((if_neg a3).trans (if_pos h)))⟩
  clear HD HS HRC
  by_cases p0 : proc < 0
  · obtain ⟨rfl, rfl⟩ := HD2.out (Or.inl p0)
    clear HD2 HDL HDT HTU HLK HIL HNL HLV HSL HBB
    go_enter Try.func32, Try.ntmps32
    go_wp2_with fail
    go_quiet (fail)
    have hbq : Below ((w.alloc (.cells #[.int .i64 kind, .int .i64 proc, .int .i64 page, .int .i64 count, .int .i64 rights, .int .i64 key, .bool tagged, .int .i64 draw, .int .i64 addr, .int .i64 size, .int .i64 value, .int .i64 tag] 24)).alloc (.cells #[.int .i64 0, .int .i64 0, .int .i64 0, .int .i64 0] 40)).heap.size ((w.alloc (.cells #[.int .i64 kind, .int .i64 proc, .int .i64 page, .int .i64 count, .int .i64 rights, .int .i64 key, .bool tagged, .int .i64 draw, .int .i64 addr, .int .i64 size, .int .i64 value, .int .i64 tag] 24)).alloc (.cells #[.int .i64 0, .int .i64 0, .int .i64 0, .int .i64 0] 40)) (((w.alloc (.cells #[.int .i64 kind, .int .i64 proc, .int .i64 page, .int .i64 count, .int .i64 rights, .int .i64 key, .bool tagged, .int .i64 draw, .int .i64 addr, .int .i64 size, .int .i64 value, .int .i64 tag] 24)).alloc (.cells #[.int .i64 0, .int .i64 0, .int .i64 0, .int .i64 0] 40)).drewN nq) := below_drewK (Below.refl _ _) _
    generalize ((w.alloc (.cells #[.int .i64 kind, .int .i64 proc, .int .i64 page, .int .i64 count, .int .i64 rights, .int .i64 key, .bool tagged, .int .i64 draw, .int .i64 addr, .int .i64 size, .int .i64 value, .int .i64 tag] 24)).alloc (.cells #[.int .i64 0, .int .i64 0, .int .i64 0, .int .i64 0] 40)).drewN nq = wB at hbq ⊢
    have HA : Hid _ := HBOX.out _ hbq
    obtain ⟨⟨b0, b1, b2, b3, b4, b5⟩, b6, b7, b8, b9, b10, b11⟩ := (LookI.op HA.out).twelve; obtain ⟨⟨x0, x1, x2, x3⟩, y0, y1, y2, y3⟩ := (LookI.ans HA.out).quadf; have hlt := (LookI.ans HA.out).lt
    go_wp2
    obtain ⟨f1, f2, f3⟩ := LookI.fin HA.out (Nat.le_refl _) (.int .i64 3) (.int .i64 0) (.int .i64 0) (.int .i64 0)
    exact bodyPost_ret (v := ansV (3, 0, 0, 0)) (results_cell_row Try.results32 _ _ (w.heap.size + 1) 40 #[.int .i64 3, .int .i64 0, .int .i64 0, .int .i64 0] (0, 0) _ rfl f3 Try.underlying40 rfl info_ans) rfl ⟨rfl, f1, f2⟩
  by_cases p3 : 3 < proc
  · obtain ⟨rfl, rfl⟩ := HD2.out (Or.inr (Or.inl p3))
    have p0d : decide (proc < 0) = false := by simpa using p0
    have p3d : decide (proc ≥ 4) = true := by simp; omega
    clear HD2 HDL HDT HTU HLK HIL HNL HLV HSL HBB
    go_enter Try.func32, Try.ntmps32
    go_wp2_with fail
    go_quiet (fail)
    have hbq : Below ((w.alloc (.cells #[.int .i64 kind, .int .i64 proc, .int .i64 page, .int .i64 count, .int .i64 rights, .int .i64 key, .bool tagged, .int .i64 draw, .int .i64 addr, .int .i64 size, .int .i64 value, .int .i64 tag] 24)).alloc (.cells #[.int .i64 0, .int .i64 0, .int .i64 0, .int .i64 0] 40)).heap.size ((w.alloc (.cells #[.int .i64 kind, .int .i64 proc, .int .i64 page, .int .i64 count, .int .i64 rights, .int .i64 key, .bool tagged, .int .i64 draw, .int .i64 addr, .int .i64 size, .int .i64 value, .int .i64 tag] 24)).alloc (.cells #[.int .i64 0, .int .i64 0, .int .i64 0, .int .i64 0] 40)) (((w.alloc (.cells #[.int .i64 kind, .int .i64 proc, .int .i64 page, .int .i64 count, .int .i64 rights, .int .i64 key, .bool tagged, .int .i64 draw, .int .i64 addr, .int .i64 size, .int .i64 value, .int .i64 tag] 24)).alloc (.cells #[.int .i64 0, .int .i64 0, .int .i64 0, .int .i64 0] 40)).drewN nq) := below_drewK (Below.refl _ _) _
    generalize ((w.alloc (.cells #[.int .i64 kind, .int .i64 proc, .int .i64 page, .int .i64 count, .int .i64 rights, .int .i64 key, .bool tagged, .int .i64 draw, .int .i64 addr, .int .i64 size, .int .i64 value, .int .i64 tag] 24)).alloc (.cells #[.int .i64 0, .int .i64 0, .int .i64 0, .int .i64 0] 40)).drewN nq = wB at hbq ⊢
    have HA : Hid _ := HBOX.out _ hbq
    obtain ⟨⟨b0, b1, b2, b3, b4, b5⟩, b6, b7, b8, b9, b10, b11⟩ := (LookI.op HA.out).twelve; obtain ⟨⟨x0, x1, x2, x3⟩, y0, y1, y2, y3⟩ := (LookI.ans HA.out).quadf; have hlt := (LookI.ans HA.out).lt
    go_wp2
    obtain ⟨f1, f2, f3⟩ := LookI.fin HA.out (Nat.le_refl _) (.int .i64 3) (.int .i64 0) (.int .i64 0) (.int .i64 0)
    exact bodyPost_ret (v := ansV (3, 0, 0, 0)) (results_cell_row Try.results32 _ _ (w.heap.size + 1) 40 #[.int .i64 3, .int .i64 0, .int .i64 0, .int .i64 0] (0, 0) _ rfl f3 Try.underlying40 rfl info_ans) rfl ⟨rfl, f1, f2⟩
  obtain ⟨k, rfl⟩ : ∃ k : Nat, proc = k := ⟨proc.toNat, by omega⟩
  have hk : k < 4 := by omega
  have HD3 : Hid ((S k).live = false → D = (S, 3, 0, 0, 0) ∧ Z = s) := fun h => HD2.out (Or.inr (Or.inr (by rw [Int.toNat_natCast]; exact h)))
  have hlv := HLV.out k hk w (Below.refl _ _)
  have p0d : decide ((k : Int) < 0) = false := by simp
  have p3d : decide ((k : Int) ≥ 4) = false := by simp; omega
  clear HD2
  obtain ⟨lv, hlv2⟩ : ∃ lv, lv = (S k).live := ⟨_, rfl⟩
  rw [← hlv2] at HD3 hlv
  cases lv
  · obtain ⟨rfl, rfl⟩ := HD3.out (by first | rfl | trivial)
    clear HD3 HDL HDT HTU HLK HIL HNL HLV hlv2 HSL
    have hlv3 : ((w.alloc (.cells #[.int .i64 kind, .int .i64 (k : Int), .int .i64 page, .int .i64 count, .int .i64 rights, .int .i64 key, .bool tagged, .int .i64 draw, .int .i64 addr, .int .i64 size, .int .i64 value, .int .i64 tag] 24)).alloc (.cells #[.int .i64 0, .int .i64 0, .int .i64 0, .int .i64 0] 40)).cell? ⟨g, k * 10, none⟩ = some (.bool false) := ((HBB.out _ (Below.refl _ _)).cell (cell_lt hlv)).trans hlv
    have hglt : g < ((w.alloc (.cells #[.int .i64 kind, .int .i64 (k : Int), .int .i64 page, .int .i64 count, .int .i64 rights, .int .i64 key, .bool tagged, .int .i64 draw, .int .i64 addr, .int .i64 size, .int .i64 value, .int .i64 tag] 24)).alloc (.cells #[.int .i64 0, .int .i64 0, .int .i64 0, .int .i64 0] 40)).heap.size := Nat.lt_of_lt_of_le hg (HBB.out _ (Below.refl _ _)).size
    clear HBB
    go_enter Try.func32, Try.ntmps32
    go_wp2_with fail
    go_quiet (fail)
    have hbq : Below ((w.alloc (.cells #[.int .i64 kind, .int .i64 (k : Int), .int .i64 page, .int .i64 count, .int .i64 rights, .int .i64 key, .bool tagged, .int .i64 draw, .int .i64 addr, .int .i64 size, .int .i64 value, .int .i64 tag] 24)).alloc (.cells #[.int .i64 0, .int .i64 0, .int .i64 0, .int .i64 0] 40)).heap.size ((w.alloc (.cells #[.int .i64 kind, .int .i64 (k : Int), .int .i64 page, .int .i64 count, .int .i64 rights, .int .i64 key, .bool tagged, .int .i64 draw, .int .i64 addr, .int .i64 size, .int .i64 value, .int .i64 tag] 24)).alloc (.cells #[.int .i64 0, .int .i64 0, .int .i64 0, .int .i64 0] 40)) (((w.alloc (.cells #[.int .i64 kind, .int .i64 (k : Int), .int .i64 page, .int .i64 count, .int .i64 rights, .int .i64 key, .bool tagged, .int .i64 draw, .int .i64 addr, .int .i64 size, .int .i64 value, .int .i64 tag] 24)).alloc (.cells #[.int .i64 0, .int .i64 0, .int .i64 0, .int .i64 0] 40)).drewN nq) := below_drewK (Below.refl _ _) _
    generalize ((w.alloc (.cells #[.int .i64 kind, .int .i64 (k : Int), .int .i64 page, .int .i64 count, .int .i64 rights, .int .i64 key, .bool tagged, .int .i64 draw, .int .i64 addr, .int .i64 size, .int .i64 value, .int .i64 tag] 24)).alloc (.cells #[.int .i64 0, .int .i64 0, .int .i64 0, .int .i64 0] 40)).drewN nq = wB at hbq ⊢
    have HA : Hid _ := HBOX.out _ hbq
    obtain ⟨⟨b0, b1, b2, b3, b4, b5⟩, b6, b7, b8, b9, b10, b11⟩ := (LookI.op HA.out).twelve; obtain ⟨⟨x0, x1, x2, x3⟩, y0, y1, y2, y3⟩ := (LookI.ans HA.out).quadf; have hlt := (LookI.ans HA.out).lt
    go_wp2
    obtain ⟨f1, f2, f3⟩ := LookI.fin HA.out (Nat.le_refl _) (.int .i64 3) (.int .i64 0) (.int .i64 0) (.int .i64 0)
    exact bodyPost_ret (v := ansV (3, 0, 0, 0)) (results_cell_row Try.results32 _ _ (w.heap.size + 1) 40 #[.int .i64 3, .int .i64 0, .int .i64 0, .int .i64 0] (0, 0) _ rfl f3 Try.underlying40 rfl info_ans) rfl ⟨rfl, f1, f2⟩
  have HDL2 : Hid (IL = true → D = (upd S k (look14 (S k) (O12.mk kind (k : Int) page count rights key tagged draw addr size value tag)).1, (look14 (S k) (O12.mk kind (k : Int) page count rights key tagged draw addr size value tag)).2) ∧ Z = lookS M S s k (O12.mk kind (k : Int) page count rights key tagged draw addr size value tag)) := fun h => ⟨HDL.out k (by omega) (by omega) rfl hk hlv2.symm h, (HSL.out k (by omega) (by omega) rfl hk hlv2.symm).trans (by rw [h]; rfl)⟩
  have HDT2 : Hid (IL = false → D = (tuS S k (O12.mk kind (k : Int) page count rights key tagged draw addr size value tag), tuE S k (O12.mk kind (k : Int) page count rights key tagged draw addr size value tag), tuV S k (O12.mk kind (k : Int) page count rights key tagged draw addr size value tag), 0, 0) ∧ Z = turS M S s k (O12.mk kind (k : Int) page count rights key tagged draw addr size value tag)) := fun h => ⟨HDT.out k (by omega) (by omega) rfl hk hlv2.symm h, (HSL.out k (by omega) (by omega) rfl hk hlv2.symm).trans (by rw [h]; rfl)⟩
  have HLK2 : Hid _ := HLK.out k hk hlv2.symm rfl
  have HTU2 : Hid _ := HTU.out k hk hlv2.symm rfl
  have HNL2 : Hid (IL = false → 1 ≤ kind ∧ kind ≤ 9) := fun h => HNL.out h (by omega) (by omega)
  clear HDL HDT HLK HTU HNL HLV HD3 hlv2 HSL
  generalize look14 (S k) (O12.mk kind (k : Int) page count rights key tagged draw addr size value tag) = LK at *
  generalize tuS S k (O12.mk kind (k : Int) page count rights key tagged draw addr size value tag) = TS at *
  generalize tuE S k (O12.mk kind (k : Int) page count rights key tagged draw addr size value tag) = TE at *
  generalize tuV S k (O12.mk kind (k : Int) page count rights key tagged draw addr size value tag) = TV at *
  generalize lookS M S s k (O12.mk kind (k : Int) page count rights key tagged draw addr size value tag) = ZL at *
  generalize turS M S s k (O12.mk kind (k : Int) page count rights key tagged draw addr size value tag) = ZT at *
  have hlv3 : ((w.alloc (.cells #[.int .i64 kind, .int .i64 (k : Int), .int .i64 page, .int .i64 count, .int .i64 rights, .int .i64 key, .bool tagged, .int .i64 draw, .int .i64 addr, .int .i64 size, .int .i64 value, .int .i64 tag] 24)).alloc (.cells #[.int .i64 0, .int .i64 0, .int .i64 0, .int .i64 0] 40)).cell? ⟨g, k * 10, none⟩ = some (.bool true) := ((HBB.out _ (Below.refl _ _)).cell (cell_lt hlv)).trans hlv
  have hglt : g < ((w.alloc (.cells #[.int .i64 kind, .int .i64 (k : Int), .int .i64 page, .int .i64 count, .int .i64 rights, .int .i64 key, .bool tagged, .int .i64 draw, .int .i64 addr, .int .i64 size, .int .i64 value, .int .i64 tag] 24)).alloc (.cells #[.int .i64 0, .int .i64 0, .int .i64 0, .int .i64 0] 40)).heap.size := Nat.lt_of_lt_of_le hg (HBB.out _ (Below.refl _ _)).size
  clear HBB hlv
  go_enter Try.func32, Try.ntmps32
  go_wp2_with fail
  go_quiet (fail)
  have hbq : Below ((w.alloc (.cells #[.int .i64 kind, .int .i64 (k : Int), .int .i64 page, .int .i64 count, .int .i64 rights, .int .i64 key, .bool tagged, .int .i64 draw, .int .i64 addr, .int .i64 size, .int .i64 value, .int .i64 tag] 24)).alloc (.cells #[.int .i64 0, .int .i64 0, .int .i64 0, .int .i64 0] 40)).heap.size ((w.alloc (.cells #[.int .i64 kind, .int .i64 (k : Int), .int .i64 page, .int .i64 count, .int .i64 rights, .int .i64 key, .bool tagged, .int .i64 draw, .int .i64 addr, .int .i64 size, .int .i64 value, .int .i64 tag] 24)).alloc (.cells #[.int .i64 0, .int .i64 0, .int .i64 0, .int .i64 0] 40)) (((w.alloc (.cells #[.int .i64 kind, .int .i64 (k : Int), .int .i64 page, .int .i64 count, .int .i64 rights, .int .i64 key, .bool tagged, .int .i64 draw, .int .i64 addr, .int .i64 size, .int .i64 value, .int .i64 tag] 24)).alloc (.cells #[.int .i64 0, .int .i64 0, .int .i64 0, .int .i64 0] 40)).drewN nq) := below_drewK (Below.refl _ _) _
  generalize ((w.alloc (.cells #[.int .i64 kind, .int .i64 (k : Int), .int .i64 page, .int .i64 count, .int .i64 rights, .int .i64 key, .bool tagged, .int .i64 draw, .int .i64 addr, .int .i64 size, .int .i64 value, .int .i64 tag] 24)).alloc (.cells #[.int .i64 0, .int .i64 0, .int .i64 0, .int .i64 0] 40)).drewN nq = wB at hbq ⊢
  have HA : Hid _ := HBOX.out _ hbq
  obtain ⟨⟨b0, b1, b2, b3, b4, b5⟩, b6, b7, b8, b9, b10, b11⟩ := (LookI.op HA.out).twelve; obtain ⟨⟨x0, x1, x2, x3⟩, y0, y1, y2, y3⟩ := (LookI.ans HA.out).quadf; have hlt := (LookI.ans HA.out).lt
  clear hlv3 hglt
  cases IL
  · obtain ⟨rfl, rfl⟩ := HDT2.out (by first | rfl | trivial)
    have HTU3 : Hid _ := HTU2.out (HNL2.out (by first | rfl | trivial))
    clear HDT2 HDL2 HLK2 HTU2 HNL2
    go_wp2_with (first
      | (go_at_call 36; refine (HIL.out _).mono ?_; rintro e w3 ⟨rfl, rfl⟩)
      | (go_at_call 38; refine (HTU3.out _ _ HA.out rfl).mono ?_; rintro e w4 ⟨rfl, hL4⟩; clear b0 b1 b2 b3 b4 b5 b6 b7 b8 b9 b10 b11 x0 x1 x2 x3 y0 y1 y2 y3 hlt; have HC : Hid _ := hL4; clear hL4; obtain ⟨⟨b0, b1, b2, b3, b4, b5⟩, b6, b7, b8, b9, b10, b11⟩ := (LookI.op HC.out).twelve; obtain ⟨⟨x0, x1, x2, x3⟩, y0, y1, y2, y3⟩ := (LookI.ans HC.out).quadf; have hlt := (LookI.ans HC.out).lt))
    obtain ⟨f1, f2, f3⟩ := LookI.fin HC.out (Nat.le_refl _) (.int .i64 TE) (.int .i64 TV) (.int .i64 0) (.int .i64 0)
    exact bodyPost_ret (v := ansV (TE, TV, 0, 0)) (results_cell_row Try.results32 _ _ (w.heap.size + 1) 40 #[.int .i64 TE, .int .i64 TV, .int .i64 0, .int .i64 0] (0, 0) _ rfl f3 Try.underlying40 rfl info_ans) rfl ⟨rfl, f1, f2⟩
  · obtain ⟨rfl, rfl⟩ := HDL2.out (by first | rfl | trivial)
    clear HDT2 HDL2 HTU2 HNL2
    obtain ⟨LP, l1, l2, l3, l4⟩ := LK
    simp only at HLK2
    go_wp2_with (first
      | (go_at_call 36; refine (HIL.out _).mono ?_; rintro e w3 ⟨rfl, rfl⟩)
      | (go_at_call 37; refine (HLK2.out _ _ HA.out rfl).mono ?_; rintro e w4 ⟨rfl, hL4⟩; clear b0 b1 b2 b3 b4 b5 b6 b7 b8 b9 b10 b11 x0 x1 x2 x3 y0 y1 y2 y3 hlt; have HC : Hid _ := hL4; clear hL4; obtain ⟨⟨b0, b1, b2, b3, b4, b5⟩, b6, b7, b8, b9, b10, b11⟩ := (LookI.op HC.out).twelve; obtain ⟨⟨x0, x1, x2, x3⟩, y0, y1, y2, y3⟩ := (LookI.ans HC.out).quadf; have hlt := (LookI.ans HC.out).lt))
    obtain ⟨f1, f2, f3⟩ := LookI.fin HC.out (Nat.le_refl _) (.int .i64 l1) (.int .i64 l2) (.int .i64 l3) (.int .i64 l4)
    exact bodyPost_ret (v := ansV (l1, l2, l3, l4)) (results_cell_row Try.results32 _ _ (w.heap.size + 1) 40 #[.int .i64 l1, .int .i64 l2, .int .i64 l3, .int .i64 l4] (0, 0) _ rfl f3 Try.underlying40 rfl info_ans) rfl ⟨rfl, f1, f2⟩

end Go.Proofs.Ytbiipnojhjhejaa

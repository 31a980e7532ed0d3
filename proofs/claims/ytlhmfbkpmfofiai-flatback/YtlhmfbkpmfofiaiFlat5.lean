/- The contracts of flat.process.newKey, freeKey and setKey. -/
import Derived.Test.YtlhmfbkpmfofiaiFlat4
import Derived.Test.YtlhmfbkpmfofiaiFlatHeld
namespace Go.Proofs.Ytlhmfbkpmfofiai
set_option maxRecDepth 100000
open Go.RowKit
set_option linter.unusedSimpArgs false
set_option linter.unusedVariables false

theorem k8L_kv (l : K8) : (Value.agg (k8L l).toArray) = kv l := rfl

theorem k8L_one (l : K8) : (k8L l).toArray.all (·.oneCell') = true := all_oneCell_toArray (by
  intro v hv
  simp only [k8L, List.mem_cons, List.not_mem_nil, or_false] at hv
  rcases hv with rfl | rfl | rfl | rfl | rfl | rfl | rfl | rfl <;> rfl)

theorem WOK.there {base g : Nat} {w : World} {S : W4} (h : WOK base g w S) {o n : Nat} (ho : o + n ≤ 17448) : w.there g o n := by
  obtain ⟨h1, h2, xs, h3, h4, h5⟩ := h
  intro j hj
  refine ⟨?_, h3.free _⟩
  rw [h3.cell, List.getElem?_eq_getElem (by omega)]
  rfl

set_option maxHeartbeats 1600000 in
theorem newKey_any (base g : Nat) (S : W4) (k : Nat) (hk : k < 4) (w : World) (h : WOK base g w S) :
    Calls Try.prog 40 #[.pointer (some ⟨g, k * 4362, none⟩)] w fun e w' => e = .returned (.tuple #[.int .i64 (nwN (S k).K), .int .i64 (nwE (S k).K)]) ∧ WOK base g w' (if nwE (S k).K = 0 then upd S k { S k with K := nwL (S k).K } else S) ∧ Spare g w w' := by
  have HW : Hid (∀ w1, Below w.heap.size w w1 → WOK base g w1 S) := fun w1 hb => h.below hb
  have HRG : Hid (w.rangeAt g (k * 4362 + 2) (k8L (S k).K)) := h.keyRange hk
  have HN : Hid (∀ w1, Calls Try.prog 58 #[.agg (k8L (S k).K).toArray] w1 fun e w' => e = .returned (kneV (nwL (S k).K) (nwN (S k).K) (nwE (S k).K)) ∧ Below w1.heap.size w1 w') := fun w1 => new_any (S k).K w1
  have HZ : Hid (nwE (S k).K ≠ 0 → nwN (S k).K = 0) := by
    intro hz
    unfold nwE at hz
    unfold nwN
    split
    · rfl
    · rename_i h4; rw [if_neg h4] at hz; exact absurd rfl hz
  obtain ⟨R, hR⟩ : ∃ R, Hid (R = if nwE (S k).K = 0 then upd S k { S k with K := nwL (S k).K } else S) := ⟨_, rfl⟩
  rw [← hR.out]
  have HSZ : Hid ((Try.prog.info? 30).map (·.size) = some (k8L (S k).K).length) := info_keys
  have HS : Hid (∀ w2, Below w.heap.size w w2 → WOK base g (w2.setCells g (k * 4362 + 2) (k8L (nwL (S k).K))) (upd S k { S k with K := nwL (S k).K })) := fun w2 hb => (h.below hb).setKeys hk _
  have HTH : Hid (∀ w2, Below w.heap.size w w2 → w2.there g (k * 4362 + 2) 8) := fun w2 hb => (h.below hb).there (by omega)
  generalize nwE (S k).K = E at *
  generalize nwN (S k).K = N at *
  generalize nwL (S k).K = L8 at *
  obtain ⟨C, hC⟩ : ∃ C, Hid (C = k8L (S k).K) := ⟨_, rfl⟩
  rw [← hC.out] at HRG HN HSZ
  have hg := h.glt
  clear h hC
  obtain ⟨t0, d0, t1, d1, t2, d2, t3, d3⟩ := L8
  by_cases hE : E = 0
  · subst hE
    clear HZ
    go_enter Try.func40, Try.ntmps40
    go_wp2_with (first
      | (refine wpList_load_mid rfl 30 (.tmp 10) rfl g (k * 4362 + 2) rfl C _ HRG.out Try.underlying30 rfl HSZ.out ?_)
      | (refine wpList_store_mid rfl 30 (.tmp 22) (.tmp 20) rfl g (k * 4362 + 2) (k8L (t0, d0, t1, d1, t2, d2, t3, d3)).toArray rfl rfl (HTH.out _ (below_al hb1 _)) info_keys (k8L_one _) ?_)
      | (go_at_call 58; refine (HN.out _).mono ?_; rintro e w1 ⟨rfl, hb1⟩))
    go_ret2
    exact ⟨rfl, hR.out ▸ HS.out _ (below_al hb1 _), (Spare.of_below (below_al hb1 _)).setCells _ _⟩
  · obtain rfl := HZ.out hE
    have hd : (E != 0) = true := by simpa using hE
    clear HZ
    go_enter Try.func40, Try.ntmps40
    go_wp2_with (first
      | (refine wpList_load_mid rfl 30 (.tmp 10) rfl g (k * 4362 + 2) rfl C _ HRG.out Try.underlying30 rfl HSZ.out ?_)
      | (go_at_call 58; refine (HN.out _).mono ?_; rintro e w1 ⟨rfl, hb1⟩))
    go_ret2
    have hR2 := hR.out
    rw [if_neg hE] at hR2
    rw [hR2]
    exact ⟨rfl, HW.out _ (below_al hb1 _), Spare.of_below (below_al hb1 _)⟩

set_option maxHeartbeats 400000 in
theorem freeKey1_any (B : Nat) (f t r k : Int) (g s : Bool) (key : Int) (w : World) (hc : w.cell? ⟨B, 5, none⟩ = some (.int .i64 key)) :
    Calls Try.prog 61 #[.agg #[.int .i64 f, .int .i64 t, .int .i64 r, .int .i64 k, .bool g, .bool s], .pointer (some ⟨B, 0, none⟩)] w fun e w' => e = .returned (.bool (decide (k = key))) ∧ Below w.heap.size w w' := by
  have hlt := cell_lt hc
  go_enter Try.func61, Try.ntmps61
  go_wp2
  go_ret
  refine ⟨ret_bool ?_, (Below.refl _ _).alloc (Nat.le_refl _) _⟩
  rw [Bool.eq_iff_iff]
  simp

theorem nxK {wr b : World} {P : World → Prop} (hP : ∀ b, Below wr.heap.size wr b → P b) (h : Below wr.heap.size wr b) : P b := hP b h

theorem OwnRow.all8 {w2 : World} {g : Nat} {e : TypeId} {x0 x1 x2 x3 x4 x5 x6 x7 : Value} (h : OwnRow w2 g e [x0, x1, x2, x3, x4, x5, x6, x7]) :
    ((w2.cell? ⟨g, 0, none⟩ = some x0 ∧ w2.cell? ⟨g, 1, none⟩ = some x1 ∧ w2.cell? ⟨g, 2, none⟩ = some x2 ∧ w2.cell? ⟨g, 3, none⟩ = some x3) ∧
    (w2.cell? ⟨g, 4, none⟩ = some x4 ∧ w2.cell? ⟨g, 5, none⟩ = some x5 ∧ w2.cell? ⟨g, 6, none⟩ = some x6 ∧ w2.cell? ⟨g, 7, none⟩ = some x7)) ∧
    (w2.frozen? ⟨g, 0, none⟩ = false ∧ w2.frozen? ⟨g, 1, none⟩ = false ∧ w2.frozen? ⟨g, 2, none⟩ = false ∧ w2.frozen? ⟨g, 3, none⟩ = false) ∧
    w2.frozen? ⟨g, 4, none⟩ = false ∧ w2.frozen? ⟨g, 5, none⟩ = false ∧ w2.frozen? ⟨g, 6, none⟩ = false ∧ w2.frozen? ⟨g, 7, none⟩ = false :=
  ⟨h.eight, ⟨h.free 0, h.free 1, h.free 2, h.free 3⟩, h.free 4, h.free 5, h.free 6, h.free 7⟩

set_option maxHeartbeats 3200000 in
theorem freeKey_any (base g : Nat) (S : W4) (k : Nat) (hk : k < 4) (o : O12) (w : World) (h : WOK base g w S) (hi : Inv S) :
    Calls Try.prog 41 #[.pointer (some ⟨g, k * 4362, none⟩), opV o] w fun e w' => e = .returned (.int .i64 (kfE (S k) o)) ∧ WOK base g w' (if kfE (S k) o = 0 then upd S k { S k with K := frL (S k).K o.key } else S) ∧ Spare g w w' := by
  have HW : Hid (∀ w1, Below w.heap.size w w1 → WOK base g w1 S) := fun w1 hb => h.below hb
  have HS : Hid (∀ w2, Below w.heap.size w w2 → WOK base g (w2.setCells g (k * 4362 + 2) (k8L (frL (S k).K o.key))) (upd S k { S k with K := frL (S k).K o.key })) := fun w2 hb => (h.below hb).setKeys hk _
  have HTH : Hid (∀ w2, Below w.heap.size w w2 → w2.there g (k * 4362 + 2) 8) := fun w2 hb => (h.below hb).there (by omega)
  have HKC : Hid _ := h.keys hk
  obtain ⟨a, cap, h1, h2, -⟩ := h.recs hi hk
  have HRC : Hid (∀ w1, Below w.heap.size w w1 → IsRecs encR 64 w1 (.slice a (S k).L.length cap) (S k).L ∧ w1.cell? ⟨g, k * 4362 + 1, none⟩ = some (.slice a (S k).L.length cap)) := fun w1 hb => ⟨h2.below hb, (hb.cell (cell_lt h1)).trans h1⟩
  have hg := h.glt
  obtain ⟨R, hR⟩ : ∃ R, Hid (R = if kfE (S k) o = 0 then upd S k { S k with K := frL (S k).K o.key } else S) := ⟨_, rfl⟩
  rw [← hR.out]
  have HF : Hid (∀ w1, Calls Try.prog 59 #[kv (S k).K, .int .i64 o.key] w1 fun e w' => e = .returned (keV (frL (S k).K o.key) (frE (S k).K o.key)) ∧ Below w1.heap.size w1 w') := fun w1 => free_any (S k).K o.key w1
  have HE : Hid (kfE (S k) o = if frE (S k).K o.key = 0 then if heldK (S k) o.key then 7 else 0 else frE (S k).K o.key) := rfl
  have HH : Hid (∀ w1 B, Below w.heap.size w w1 → w1.cell? ⟨B, 5, none⟩ = some (.int .i64 o.key) → Calls Try.prog 60 #[.slice a (S k).L.length cap, .func (.func 61) #[] #[.pointer (some ⟨B, 0, none⟩)]] w1 fun e w' => e = .returned (.bool (heldK (S k) o.key)) ∧ Below w1.heap.size w1 w') := fun w1 B hb hc =>
    rcontainsF_any #[.pointer (some ⟨B, 0, none⟩)] (fun x => decide (x.2.2.2.1 = o.key)) _ _ 64 w1 (HRC.out _ hb).1 (by decide) (fun w2 f t r k g s hb2 => freeKey1_any B f t r k g s o.key w2 ((hb2.cell (cell_lt hc)).trans hc))
  have HR2 : Hid (R = if kfE (S k) o = 0 then upd S k { S k with K := frL (S k).K o.key } else S) := hR.out
  generalize kfE (S k) o = F at *
  generalize heldK (S k) o.key = D at *
  obtain ⟨S2, hS2⟩ : ∃ S2, S2 = upd S k { S k with K := frL (S k).K o.key } := ⟨_, rfl⟩
  rw [← hS2] at HR2 HS
  clear hR hS2
  generalize (S k).L.length = m at *
  generalize (S k).K = K at *
  obtain ⟨t0, d0, t1, d1, t2, d2, t3, d3⟩ := K
  obtain ⟨kind, proc, page, count, rights, key, tagged, draw, addr, size, value, tag⟩ := o
  simp only at HF HKC HE HS HR2 ⊢
  generalize frE (t0, d0, t1, d1, t2, d2, t3, d3) key = G at *
  generalize frL (t0, d0, t1, d1, t2, d2, t3, d3) key = L8 at *
  obtain ⟨t4, d4, t5, d5, t6, d6, t7, d7⟩ := L8
  have hbA : Below w.heap.size w (w.alloc (.cells #[.int .i64 kind, .int .i64 proc, .int .i64 page, .int .i64 count, .int .i64 rights, .int .i64 key, .bool tagged, .int .i64 draw, .int .i64 addr, .int .i64 size, .int .i64 value, .int .i64 tag] 24)) := (Below.refl _ _).alloc (Nat.le_refl _) _
  have hoA : OwnRow (w.alloc (.cells #[.int .i64 kind, .int .i64 proc, .int .i64 page, .int .i64 count, .int .i64 rights, .int .i64 key, .bool tagged, .int .i64 draw, .int .i64 addr, .int .i64 size, .int .i64 value, .int .i64 tag] 24)) w.heap.size 24 [.int .i64 kind, .int .i64 proc, .int .i64 page, .int .i64 count, .int .i64 rights, .int .i64 key, .bool tagged, .int .i64 draw, .int .i64 addr, .int .i64 size, .int .i64 value, .int .i64 tag] := heap_alloc_new w _
  clear h h1 h2 hi
  go_enter Try.func41, Try.ntmps41
  go_wp2_with fail
  generalize (w.alloc (.cells #[.int .i64 kind, .int .i64 proc, .int .i64 page, .int .i64 count, .int .i64 rights, .int .i64 key, .bool tagged, .int .i64 draw, .int .i64 addr, .int .i64 size, .int .i64 value, .int .i64 tag] 24)) = wo at hbA hoA ⊢
  have hlt := hoA.lt
  have HNX : Hid (∀ w', Below wo.heap.size wo w' → w'.cell? ⟨g, k * 4362 + 2, none⟩ = some (.bool t0) ∧ w'.cell? ⟨g, k * 4362 + 2 + 1, none⟩ = some (.int .i64 d0) ∧ w'.cell? ⟨g, k * 4362 + 2 + 2, none⟩ = some (.bool t1) ∧ w'.cell? ⟨g, k * 4362 + 2 + 3, none⟩ = some (.int .i64 d1) ∧ w'.cell? ⟨g, k * 4362 + 2 + 4, none⟩ = some (.bool t2) ∧ w'.cell? ⟨g, k * 4362 + 2 + 5, none⟩ = some (.int .i64 d2) ∧ w'.cell? ⟨g, k * 4362 + 2 + 6, none⟩ = some (.bool t3) ∧ w'.cell? ⟨g, k * 4362 + 2 + 7, none⟩ = some (.int .i64 d3) ∧ w'.cell? ⟨w.heap.size, 5, none⟩ = some (.int .i64 key) ∧ w'.cell? ⟨g, k * 4362 + 1, none⟩ = some (.slice a m cap) ∧ Below wo.heap.size wo w') := fun w' hb => by
    obtain ⟨⟨c0, c1, c2, c3⟩, c4, c5, c6, c7⟩ := HKC.out
    have hbw := hbA.trans (hb.mono hbA.size)
    have go : ∀ {A : Addr} {v : Value}, w.cell? A = some v → w'.cell? A = some v := fun hc => (hbw.cell (cell_lt hc)).trans hc
    have ho := hoA.below hb hoA.lt
    exact ⟨go c0, go c1, go c2, go c3, go c4, go c5, go c6, go c7, by rw [ho.cell]; rfl, (HRC.out _ hbw).2, hb⟩
  have HF2 : Hid (∀ w1, Below wo.heap.size wo w1 → Calls Try.prog 59 #[.agg #[.bool t0, .int .i64 d0, .bool t1, .int .i64 d1, .bool t2, .int .i64 d2, .bool t3, .int .i64 d3], .int .i64 key] w1 fun e w' => e = .returned (keV (t4, d4, t5, d5, t6, d6, t7, d7) G) ∧ Below wo.heap.size wo w' ∧ Below w1.heap.size w1 w') := fun w1 hb => by
    refine (HF.out w1).mono ?_
    rintro e w2 ⟨he, hb2⟩
    exact ⟨he, hb.trans (hb2.mono hb.size), hb2⟩
  have HBA : Hid (Below w.heap.size w wo) := hbA
  have HOA : Hid (OwnRow wo w.heap.size 24 [.int .i64 kind, .int .i64 proc, .int .i64 page, .int .i64 count, .int .i64 rights, .int .i64 key, .bool tagged, .int .i64 draw, .int .i64 addr, .int .i64 size, .int .i64 value, .int .i64 tag]) := hoA
  clear hoA hbA HF HKC
  refine wp_region_noPanic ?_
  refine wp_region_held_drew (S := (fun w' => w'.cell? ⟨g, k * 4362 + 2, none⟩ = some (.bool t0) ∧ w'.cell? ⟨g, k * 4362 + 2 + 1, none⟩ = some (.int .i64 d0) ∧ w'.cell? ⟨g, k * 4362 + 2 + 2, none⟩ = some (.bool t1) ∧ w'.cell? ⟨g, k * 4362 + 2 + 3, none⟩ = some (.int .i64 d1) ∧ w'.cell? ⟨g, k * 4362 + 2 + 4, none⟩ = some (.bool t2) ∧ w'.cell? ⟨g, k * 4362 + 2 + 5, none⟩ = some (.int .i64 d2) ∧ w'.cell? ⟨g, k * 4362 + 2 + 6, none⟩ = some (.bool t3) ∧ w'.cell? ⟨g, k * 4362 + 2 + 7, none⟩ = some (.int .i64 d3) ∧ w'.cell? ⟨w.heap.size, 5, none⟩ = some (.int .i64 key) ∧ w'.cell? ⟨g, k * 4362 + 1, none⟩ = some (.slice a m cap) ∧ Below wo.heap.size wo w')) (by kernel_rfl) (HNX.out _ (Below.refl _ _).drew) (fun hHeld => ?_)
  refine take_to 0 (some 8) (v := ?_) rfl rfl (by kernel_rfl) (by kernel_rfl) (by kernel_rfl) (fun _ _ _ h => h) (Or.inl ⟨by rfl, ?_⟩) (by assumption) ?_
  rotate_left
  · intro w hSw
    (try dsimp only at hSw)
    go_simp
    with_reducible rfl
  simp only [Act.put, List.setIfInBounds_toArray, List.set_cons_zero, List.set_cons_succ]
  refine take_to 1 (some 9) (v := ?_) rfl rfl (by kernel_rfl) (by kernel_rfl) (by kernel_rfl) (fun _ _ _ h => h) (Or.inl ⟨by rfl, ?_⟩) (by assumption) ?_
  rotate_left
  · intro w hSw
    (try dsimp only at hSw)
    go_simp
    with_reducible rfl
  simp only [Act.put, List.setIfInBounds_toArray, List.set_cons_zero, List.set_cons_succ]
  refine take_to 2 (some 10) (v := ?_) rfl rfl (by kernel_rfl) (by kernel_rfl) (by kernel_rfl) (fun _ _ _ h => h) (Or.inl ⟨by rfl, ?_⟩) (by assumption) ?_
  rotate_left
  · intro w hSw
    (try dsimp only at hSw)
    go_simp
    with_reducible rfl
  simp only [Act.put, List.setIfInBounds_toArray, List.set_cons_zero, List.set_cons_succ]
  refine take_to 3 (some 11) (v := ?_) rfl rfl (by kernel_rfl) (by kernel_rfl) (by kernel_rfl) (fun _ _ _ h => h) (Or.inl ⟨by rfl, ?_⟩) (by assumption) ?_
  rotate_left
  · intro w hSw
    (try dsimp only at hSw)
    go_simp
    with_reducible rfl
  simp only [Act.put, List.setIfInBounds_toArray, List.set_cons_zero, List.set_cons_succ]
  refine take_to 4 (some 12) (v := ?_) rfl rfl (by kernel_rfl) (by kernel_rfl) (by kernel_rfl) (fun _ _ _ h => h) (Or.inl ⟨by rfl, ?_⟩) (by assumption) ?_
  rotate_left
  · intro w hSw
    (try dsimp only at hSw)
    go_simp
    with_reducible rfl
  simp only [Act.put, List.setIfInBounds_toArray, List.set_cons_zero, List.set_cons_succ]
  refine take_to 5 (some 13) (v := ?_) rfl rfl (by kernel_rfl) (by kernel_rfl) (by kernel_rfl) (fun _ _ _ h => h) (Or.inl ⟨by rfl, ?_⟩) (by assumption) ?_
  rotate_left
  · intro w hSw
    (try dsimp only at hSw)
    go_simp
    with_reducible rfl
  simp only [Act.put, List.setIfInBounds_toArray, List.set_cons_zero, List.set_cons_succ]
  refine wpAnyH_ready (rs := [6, 10]) (by kernel_rfl) (by simp) ?_
  refine AllReadyH.cons rfl (fun K hK => ?_) (AllReadyH.cons rfl (fun K hK => ?_) AllReadyH.nil)
  · go_simp
    refine Calls.mono (HF2.out _ (Below.refl _ _).drew) ?_
    rintro e w2 ⟨rfl, hbw2, hw2⟩
    go_wp2_with fail
    refine hK.out _ _ (HNX.out _ hbw2) (fun hHeld => ?_)
    clear hK K
    try simp only [Act.put, List.setIfInBounds_toArray, List.set_cons_zero, List.set_cons_succ]
    refine take_to 7 (some 7) (v := ?_) rfl rfl (by kernel_rfl) (by kernel_rfl) (by kernel_rfl) (fun _ _ _ h => h) (Or.inl ⟨by rfl, ?_⟩) (by assumption) ?_
    rotate_left
    · intro w hSw
      (try dsimp only at hSw)
      go_simp
      with_reducible rfl
    simp only [Act.put, List.setIfInBounds_toArray, List.set_cons_zero, List.set_cons_succ]
    refine take_to 8 (some 15) (v := ?_) rfl rfl (by kernel_rfl) (by kernel_rfl) (by kernel_rfl) (fun _ _ _ h => h) (Or.inl ⟨by rfl, ?_⟩) (by assumption) ?_
    rotate_left
    · intro w hSw
      (try dsimp only at hSw)
      go_simp
      with_reducible rfl
    simp only [Act.put, List.setIfInBounds_toArray, List.set_cons_zero, List.set_cons_succ]
    refine take_to 9 (some 16) (v := ?_) rfl rfl (by kernel_rfl) (by kernel_rfl) (by kernel_rfl) (fun _ _ _ h => h) (Or.inl ⟨by rfl, ?_⟩) (by assumption) ?_
    rotate_left
    · intro w hSw
      (try dsimp only at hSw)
      go_simp
      with_reducible rfl
    simp only [Act.put, List.setIfInBounds_toArray, List.set_cons_zero, List.set_cons_succ]
    refine wpAnyH_ready (rs := [10]) (by kernel_rfl) (by simp) ?_
    refine AllReadyH.cons rfl (fun K hK => ?_) AllReadyH.nil
    go_simp
    refine hK.out _ _ (HNX.out _ (hbw2.alloc hbw2.size _)) (fun hHeld => ?_)
    clear hK K
    try simp only [Act.put, List.setIfInBounds_toArray, List.set_cons_zero, List.set_cons_succ]
    refine wpAnyH_ready (rs := [11]) (by kernel_rfl) (by simp) ?_
    refine AllReadyH.cons rfl (fun K hK => ?_) AllReadyH.nil
    go_simp
    refine hK.out _ _ (HNX.out _ (hbw2.alloc hbw2.size _)) (fun hHeld => ?_)
    clear hK K
    try simp only [Act.put, List.setIfInBounds_toArray, List.set_cons_zero, List.set_cons_succ]
    refine take_to 12 (some 6) (v := ?_) rfl rfl (by kernel_rfl) (by kernel_rfl) (by kernel_rfl) (fun _ _ _ h => h) (Or.inl ⟨by rfl, ?_⟩) (by assumption) ?_
    rotate_left
    · intro w hSw
      (try dsimp only at hSw)
      go_simp
      with_reducible rfl
    simp only [Act.put, List.setIfInBounds_toArray, List.set_cons_zero, List.set_cons_succ]
    refine wpAnyH_done (by kernel_rfl) ?_ _
    refine NoPanic.normal ?_
    have hb3 : Below wo.heap.size wo (w2.alloc (.cells (k8L (t4, d4, t5, d5, t6, d6, t7, d7)).toArray 30)) := hbw2.alloc hbw2.size _
    have ho3 : OwnRow (w2.alloc (.cells (k8L (t4, d4, t5, d5, t6, d6, t7, d7)).toArray 30)) w2.heap.size 30 (k8L (t4, d4, t5, d5, t6, d6, t7, d7)) := heap_alloc_new w2 _
    have hbw3 := HBA.out.trans (hb3.mono HBA.out.size)
    have hq5 := (HNX.out _ hb3).2.2.2.2.2.2.2.2.1
    have hc1 := (HRC.out _ hbw3).2
    clear HNX HF2
    change Exit.then _ _ _ _ (w2.alloc (.cells (k8L (t4, d4, t5, d5, t6, d6, t7, d7)).toArray 30))
    generalize (w2.alloc (.cells (k8L (t4, d4, t5, d5, t6, d6, t7, d7)).toArray 30)) = w3 at hb3 ho3 hbw3 hq5 hc1 ⊢
    have hlt3 := ho3.lt
    obtain ⟨⟨z0, z1, z2, z3⟩, z4, z5, z6, z7⟩ := ho3.eight
    by_cases hG : G = 0
    · subst hG
      cases D
      · obtain rfl : F = 0 := HE.out
        go_wp2_with (first
          | (go_at_call 60; refine (HH.out _ _ hbw3 hq5).mono ?_; rintro e w4 ⟨rfl, hb4⟩; have hbw4 := hbw3.trans (hb4.mono hbw3.size); obtain ⟨⟨u0, u1, u2, u3⟩, u4, u5, u6, u7⟩ := (ho3.below hb4 ho3.lt).eight)
          | (refine wpList_store_mid rfl 30 (.tmp 29) (.tmp 27) rfl g (k * 4362 + 2) (k8L (t4, d4, t5, d5, t6, d6, t7, d7)).toArray rfl rfl (HTH.out _ hbw4) info_keys (k8L_one _) ?_))
        go_ret
        exact ⟨rfl, HR2.out ▸ HS.out _ hbw4, (Spare.of_below hbw4).setCells _ _⟩
      · obtain rfl : F = 7 := HE.out
        go_wp2_with (first
          | (go_at_call 60; refine (HH.out _ _ hbw3 hq5).mono ?_; rintro e w4 ⟨rfl, hb4⟩; have hbw4 := hbw3.trans (hb4.mono hbw3.size)))
        go_ret
        exact ⟨rfl, HR2.out ▸ HW.out _ hbw4, Spare.of_below hbw4⟩
    · obtain rfl : F = G := HE.out.trans (if_neg hG)
      have hd : (F != 0) = true := by simpa using hG
      have hR3 := HR2.out
      rw [if_neg hG] at hR3
      go_wp2
      go_ret
      (try rw [hR3])
      exact ⟨rfl, HW.out _ hbw3, Spare.of_below hbw3⟩
  · go_simp
    refine hK.out _ _ (HNX.out _ (((Below.refl _ _).drew).alloc (Nat.le_refl _) _)) (fun hHeld => ?_)
    clear hK K
    try simp only [Act.put, List.setIfInBounds_toArray, List.set_cons_zero, List.set_cons_succ]
    refine wpAnyH_ready (rs := [6]) (by kernel_rfl) (by simp) ?_
    refine AllReadyH.cons rfl (fun K hK => ?_) AllReadyH.nil
    go_simp
    refine Calls.mono (HF2.out _ (((Below.refl _ _).drew).alloc (Nat.le_refl _) _)) ?_
    rintro e w2 ⟨rfl, hbw2, hw2⟩
    go_wp2_with fail
    refine hK.out _ _ (HNX.out _ hbw2) (fun hHeld => ?_)
    clear hK K
    try simp only [Act.put, List.setIfInBounds_toArray, List.set_cons_zero, List.set_cons_succ]
    have hX : OwnRow w2 wo.heap.size 30 [.bool false, .int .i64 0, .bool false, .int .i64 0, .bool false, .int .i64 0, .bool false, .int .i64 0] := own_drew hw2
    have hY : w2.there wo.heap.size 0 8 := fun j hj => ⟨by rw [hX.cell, List.getElem?_eq_getElem (by simpa using hj)]; rfl, hX.free _⟩
    refine take_to 7 (some 7) (v := ?_) rfl rfl (by kernel_rfl) (by kernel_rfl) (by kernel_rfl) (fun _ _ _ h => h) (Or.inl ⟨by rfl, ?_⟩) (by assumption) ?_
    rotate_left
    · intro w hSw
      (try dsimp only at hSw)
      go_simp
      with_reducible rfl
    simp only [Act.put, List.setIfInBounds_toArray, List.set_cons_zero, List.set_cons_succ]
    refine take_to 8 (some 15) (v := ?_) rfl rfl (by kernel_rfl) (by kernel_rfl) (by kernel_rfl) (fun _ _ _ h => h) (Or.inl ⟨by rfl, ?_⟩) (by assumption) ?_
    rotate_left
    · intro w hSw
      (try dsimp only at hSw)
      go_simp
      with_reducible rfl
    simp only [Act.put, List.setIfInBounds_toArray, List.set_cons_zero, List.set_cons_succ]
    refine take_to 9 (some 16) (v := ?_) rfl rfl (by kernel_rfl) (by kernel_rfl) (by kernel_rfl) (fun _ _ _ h => h) (Or.inl ⟨by rfl, ?_⟩) (by assumption) ?_
    rotate_left
    · intro w hSw
      (try dsimp only at hSw)
      go_simp
      with_reducible rfl
    simp only [Act.put, List.setIfInBounds_toArray, List.set_cons_zero, List.set_cons_succ]
    refine wpAnyH_ready (rs := [11]) (by kernel_rfl) (by simp) ?_
    refine AllReadyH.cons rfl (fun K hK => ?_) AllReadyH.nil
    rw [if_pos (by rfl)]
    refine wp_store_mid _ _ _ rfl wo.heap.size 0 (k8L (t4, d4, t5, d5, t6, d6, t7, d7)).toArray rfl rfl hY info_keys (k8L_one _) ?_
    refine hK.out _ _ (HNX.out _ (below_setCells (Nat.le_refl _) _ _ _ _ hbw2)) (fun hHeld => ?_)
    clear hK K
    try simp only [Act.put, List.setIfInBounds_toArray, List.set_cons_zero, List.set_cons_succ]
    refine take_to 12 (some 6) (v := ?_) rfl rfl (by kernel_rfl) (by kernel_rfl) (by kernel_rfl) (fun _ _ _ h => h) (Or.inl ⟨by rfl, ?_⟩) (by assumption) ?_
    rotate_left
    · intro w hSw
      (try dsimp only at hSw)
      go_simp
      with_reducible rfl
    simp only [Act.put, List.setIfInBounds_toArray, List.set_cons_zero, List.set_cons_succ]
    refine wpAnyH_done (by kernel_rfl) ?_ _
    refine NoPanic.normal ?_
    have hb3 : Below wo.heap.size wo (w2.setCells wo.heap.size 0 (k8L (t4, d4, t5, d5, t6, d6, t7, d7))) := below_setCells (Nat.le_refl _) _ _ _ _ hbw2
    have ho3 : OwnRow (w2.setCells wo.heap.size 0 (k8L (t4, d4, t5, d5, t6, d6, t7, d7))) wo.heap.size 30 (k8L (t4, d4, t5, d5, t6, d6, t7, d7)) := hX.setCells (k8L (t4, d4, t5, d5, t6, d6, t7, d7)) 0 _ _ (Nat.le_refl _)
    have hbw3 := HBA.out.trans (hb3.mono HBA.out.size)
    have hq5 := (HNX.out _ hb3).2.2.2.2.2.2.2.2.1
    have hc1 := (HRC.out _ hbw3).2
    clear HNX HF2
    change Exit.then _ _ _ _ (w2.setCells wo.heap.size 0 (k8L (t4, d4, t5, d5, t6, d6, t7, d7)))
    generalize (w2.setCells wo.heap.size 0 (k8L (t4, d4, t5, d5, t6, d6, t7, d7))) = w3 at hb3 ho3 hbw3 hq5 hc1 ⊢
    have hlt3 := ho3.lt
    obtain ⟨⟨z0, z1, z2, z3⟩, z4, z5, z6, z7⟩ := ho3.eight
    by_cases hG : G = 0
    · subst hG
      cases D
      · obtain rfl : F = 0 := HE.out
        go_wp2_with (first
          | (go_at_call 60; refine (HH.out _ _ hbw3 hq5).mono ?_; rintro e w4 ⟨rfl, hb4⟩; have hbw4 := hbw3.trans (hb4.mono hbw3.size); obtain ⟨⟨u0, u1, u2, u3⟩, u4, u5, u6, u7⟩ := (ho3.below hb4 ho3.lt).eight)
          | (refine wpList_store_mid rfl 30 (.tmp 29) (.tmp 27) rfl g (k * 4362 + 2) (k8L (t4, d4, t5, d5, t6, d6, t7, d7)).toArray rfl rfl (HTH.out _ hbw4) info_keys (k8L_one _) ?_))
        go_ret
        exact ⟨rfl, HR2.out ▸ HS.out _ hbw4, (Spare.of_below hbw4).setCells _ _⟩
      · obtain rfl : F = 7 := HE.out
        go_wp2_with (first
          | (go_at_call 60; refine (HH.out _ _ hbw3 hq5).mono ?_; rintro e w4 ⟨rfl, hb4⟩; have hbw4 := hbw3.trans (hb4.mono hbw3.size)))
        go_ret
        exact ⟨rfl, HR2.out ▸ HW.out _ hbw4, Spare.of_below hbw4⟩
    · obtain rfl : F = G := HE.out.trans (if_neg hG)
      have hd : (F != 0) = true := by simpa using hG
      have hR3 := HR2.out
      rw [if_neg hG] at hR3
      go_wp2
      go_ret
      (try rw [hR3])
      exact ⟨rfl, HW.out _ hbw3, Spare.of_below hbw3⟩

set_option maxHeartbeats 3200000 in
theorem setKey_any (base g : Nat) (S : W4) (k : Nat) (hk : k < 4) (o : O12) (w : World) (h : WOK base g w S) (hi : Inv S) :
    Calls Try.prog 42 #[.pointer (some ⟨g, k * 4362, none⟩), opV o] w fun e w' => e = .returned (.int .i64 (stE (S k).K o.key o.rights)) ∧ WOK base g w' (if stE (S k).K o.key o.rights = 0 then upd S k { S k with K := stL (S k).K o.key o.rights } else S) ∧ Spare g w w' := by
  have HW : Hid (∀ w1, Below w.heap.size w w1 → WOK base g w1 S) := fun w1 hb => h.below hb
  have HS : Hid (∀ w2, Below w.heap.size w w2 → WOK base g (w2.setCells g (k * 4362 + 2) (k8L (stL (S k).K o.key o.rights))) (upd S k { S k with K := stL (S k).K o.key o.rights })) := fun w2 hb => (h.below hb).setKeys hk _
  have HTH : Hid (∀ w2, Below w.heap.size w w2 → w2.there g (k * 4362 + 2) 8) := fun w2 hb => (h.below hb).there (by omega)
  have HKC : Hid _ := h.keys hk
  obtain ⟨a, cap, h1, h2, -⟩ := h.recs hi hk
  have HRC : Hid (∀ w1, Below w.heap.size w w1 → IsRecs encR 64 w1 (.slice a (S k).L.length cap) (S k).L ∧ w1.cell? ⟨g, k * 4362 + 1, none⟩ = some (.slice a (S k).L.length cap)) := fun w1 hb => ⟨h2.below hb, (hb.cell (cell_lt h1)).trans h1⟩
  have hg := h.glt
  obtain ⟨R, hR⟩ : ∃ R, Hid (R = if stE (S k).K o.key o.rights = 0 then upd S k { S k with K := stL (S k).K o.key o.rights } else S) := ⟨_, rfl⟩
  rw [← hR.out]
  have HF : Hid (∀ w1, Calls Try.prog 62 #[kv (S k).K, .int .i64 o.key, .int .i64 o.rights] w1 fun e w' => e = .returned (keV (stL (S k).K o.key o.rights) (stE (S k).K o.key o.rights)) ∧ Below w1.heap.size w1 w') := fun w1 => set_any (S k).K o.key o.rights w1
  have HE : Hid True := trivial
  have HR2 : Hid (R = if stE (S k).K o.key o.rights = 0 then upd S k { S k with K := stL (S k).K o.key o.rights } else S) := hR.out
  obtain ⟨S2, hS2⟩ : ∃ S2, S2 = upd S k { S k with K := stL (S k).K o.key o.rights } := ⟨_, rfl⟩
  rw [← hS2] at HR2 HS
  clear hR hS2
  generalize (S k).L.length = m at *
  generalize (S k).K = K at *
  obtain ⟨t0, d0, t1, d1, t2, d2, t3, d3⟩ := K
  obtain ⟨kind, proc, page, count, rights, key, tagged, draw, addr, size, value, tag⟩ := o
  simp only at HF HKC HE HS HR2 ⊢
  generalize stE (t0, d0, t1, d1, t2, d2, t3, d3) key rights = E at *
  generalize stL (t0, d0, t1, d1, t2, d2, t3, d3) key rights = L8 at *
  obtain ⟨t4, d4, t5, d5, t6, d6, t7, d7⟩ := L8
  have hbA : Below w.heap.size w (w.alloc (.cells #[.int .i64 kind, .int .i64 proc, .int .i64 page, .int .i64 count, .int .i64 rights, .int .i64 key, .bool tagged, .int .i64 draw, .int .i64 addr, .int .i64 size, .int .i64 value, .int .i64 tag] 24)) := (Below.refl _ _).alloc (Nat.le_refl _) _
  have hoA : OwnRow (w.alloc (.cells #[.int .i64 kind, .int .i64 proc, .int .i64 page, .int .i64 count, .int .i64 rights, .int .i64 key, .bool tagged, .int .i64 draw, .int .i64 addr, .int .i64 size, .int .i64 value, .int .i64 tag] 24)) w.heap.size 24 [.int .i64 kind, .int .i64 proc, .int .i64 page, .int .i64 count, .int .i64 rights, .int .i64 key, .bool tagged, .int .i64 draw, .int .i64 addr, .int .i64 size, .int .i64 value, .int .i64 tag] := heap_alloc_new w _
  clear h h1 h2 hi
  go_enter Try.func42, Try.ntmps42
  go_wp2_with fail
  generalize (w.alloc (.cells #[.int .i64 kind, .int .i64 proc, .int .i64 page, .int .i64 count, .int .i64 rights, .int .i64 key, .bool tagged, .int .i64 draw, .int .i64 addr, .int .i64 size, .int .i64 value, .int .i64 tag] 24)) = wo at hbA hoA ⊢
  have hlt := hoA.lt
  have HNX : Hid (∀ w', Below wo.heap.size wo w' → w'.cell? ⟨g, k * 4362 + 2, none⟩ = some (.bool t0) ∧ w'.cell? ⟨g, k * 4362 + 2 + 1, none⟩ = some (.int .i64 d0) ∧ w'.cell? ⟨g, k * 4362 + 2 + 2, none⟩ = some (.bool t1) ∧ w'.cell? ⟨g, k * 4362 + 2 + 3, none⟩ = some (.int .i64 d1) ∧ w'.cell? ⟨g, k * 4362 + 2 + 4, none⟩ = some (.bool t2) ∧ w'.cell? ⟨g, k * 4362 + 2 + 5, none⟩ = some (.int .i64 d2) ∧ w'.cell? ⟨g, k * 4362 + 2 + 6, none⟩ = some (.bool t3) ∧ w'.cell? ⟨g, k * 4362 + 2 + 7, none⟩ = some (.int .i64 d3) ∧ w'.cell? ⟨w.heap.size, 5, none⟩ = some (.int .i64 key) ∧ w'.cell? ⟨w.heap.size, 4, none⟩ = some (.int .i64 rights) ∧ w'.cell? ⟨g, k * 4362 + 1, none⟩ = some (.slice a m cap) ∧ Below wo.heap.size wo w') := fun w' hb => by
    obtain ⟨⟨c0, c1, c2, c3⟩, c4, c5, c6, c7⟩ := HKC.out
    have hbw := hbA.trans (hb.mono hbA.size)
    have go : ∀ {A : Addr} {v : Value}, w.cell? A = some v → w'.cell? A = some v := fun hc => (hbw.cell (cell_lt hc)).trans hc
    have ho := hoA.below hb hoA.lt
    exact ⟨go c0, go c1, go c2, go c3, go c4, go c5, go c6, go c7, by rw [ho.cell]; rfl, by rw [ho.cell]; rfl, (HRC.out _ hbw).2, hb⟩
  have HF2 : Hid (∀ w1, Below wo.heap.size wo w1 → Calls Try.prog 62 #[.agg #[.bool t0, .int .i64 d0, .bool t1, .int .i64 d1, .bool t2, .int .i64 d2, .bool t3, .int .i64 d3], .int .i64 key, .int .i64 rights] w1 fun e w' => e = .returned (keV (t4, d4, t5, d5, t6, d6, t7, d7) E) ∧ Below wo.heap.size wo w' ∧ Below w1.heap.size w1 w') := fun w1 hb => by
    refine (HF.out w1).mono ?_
    rintro e w2 ⟨he, hb2⟩
    exact ⟨he, hb.trans (hb2.mono hb.size), hb2⟩
  have HBA : Hid (Below w.heap.size w wo) := hbA
  have HOA : Hid (OwnRow wo w.heap.size 24 [.int .i64 kind, .int .i64 proc, .int .i64 page, .int .i64 count, .int .i64 rights, .int .i64 key, .bool tagged, .int .i64 draw, .int .i64 addr, .int .i64 size, .int .i64 value, .int .i64 tag]) := hoA
  clear hoA hbA HF HKC
  refine wp_region_noPanic ?_
  refine wp_region_held_drew (S := (fun w' => w'.cell? ⟨g, k * 4362 + 2, none⟩ = some (.bool t0) ∧ w'.cell? ⟨g, k * 4362 + 2 + 1, none⟩ = some (.int .i64 d0) ∧ w'.cell? ⟨g, k * 4362 + 2 + 2, none⟩ = some (.bool t1) ∧ w'.cell? ⟨g, k * 4362 + 2 + 3, none⟩ = some (.int .i64 d1) ∧ w'.cell? ⟨g, k * 4362 + 2 + 4, none⟩ = some (.bool t2) ∧ w'.cell? ⟨g, k * 4362 + 2 + 5, none⟩ = some (.int .i64 d2) ∧ w'.cell? ⟨g, k * 4362 + 2 + 6, none⟩ = some (.bool t3) ∧ w'.cell? ⟨g, k * 4362 + 2 + 7, none⟩ = some (.int .i64 d3) ∧ w'.cell? ⟨w.heap.size, 5, none⟩ = some (.int .i64 key) ∧ w'.cell? ⟨w.heap.size, 4, none⟩ = some (.int .i64 rights) ∧ w'.cell? ⟨g, k * 4362 + 1, none⟩ = some (.slice a m cap) ∧ Below wo.heap.size wo w')) (by kernel_rfl) (HNX.out _ (Below.refl _ _).drew) (fun hHeld => ?_)
  refine take_to 0 (some 8) (v := ?_) rfl rfl (by kernel_rfl) (by kernel_rfl) (by kernel_rfl) (fun _ _ _ h => h) (Or.inl ⟨by rfl, ?_⟩) (by assumption) ?_
  rotate_left
  · intro w hSw
    (try dsimp only at hSw)
    go_simp
    with_reducible rfl
  simp only [Act.put, List.setIfInBounds_toArray, List.set_cons_zero, List.set_cons_succ]
  refine take_to 1 (some 9) (v := ?_) rfl rfl (by kernel_rfl) (by kernel_rfl) (by kernel_rfl) (fun _ _ _ h => h) (Or.inl ⟨by rfl, ?_⟩) (by assumption) ?_
  rotate_left
  · intro w hSw
    (try dsimp only at hSw)
    go_simp
    with_reducible rfl
  simp only [Act.put, List.setIfInBounds_toArray, List.set_cons_zero, List.set_cons_succ]
  refine take_to 2 (some 10) (v := ?_) rfl rfl (by kernel_rfl) (by kernel_rfl) (by kernel_rfl) (fun _ _ _ h => h) (Or.inl ⟨by rfl, ?_⟩) (by assumption) ?_
  rotate_left
  · intro w hSw
    (try dsimp only at hSw)
    go_simp
    with_reducible rfl
  simp only [Act.put, List.setIfInBounds_toArray, List.set_cons_zero, List.set_cons_succ]
  refine take_to 3 (some 11) (v := ?_) rfl rfl (by kernel_rfl) (by kernel_rfl) (by kernel_rfl) (fun _ _ _ h => h) (Or.inl ⟨by rfl, ?_⟩) (by assumption) ?_
  rotate_left
  · intro w hSw
    (try dsimp only at hSw)
    go_simp
    with_reducible rfl
  simp only [Act.put, List.setIfInBounds_toArray, List.set_cons_zero, List.set_cons_succ]
  refine take_to 4 (some 12) (v := ?_) rfl rfl (by kernel_rfl) (by kernel_rfl) (by kernel_rfl) (fun _ _ _ h => h) (Or.inl ⟨by rfl, ?_⟩) (by assumption) ?_
  rotate_left
  · intro w hSw
    (try dsimp only at hSw)
    go_simp
    with_reducible rfl
  simp only [Act.put, List.setIfInBounds_toArray, List.set_cons_zero, List.set_cons_succ]
  refine take_to 5 (some 13) (v := ?_) rfl rfl (by kernel_rfl) (by kernel_rfl) (by kernel_rfl) (fun _ _ _ h => h) (Or.inl ⟨by rfl, ?_⟩) (by assumption) ?_
  rotate_left
  · intro w hSw
    (try dsimp only at hSw)
    go_simp
    with_reducible rfl
  simp only [Act.put, List.setIfInBounds_toArray, List.set_cons_zero, List.set_cons_succ]
  refine take_to 6 (some 14) (v := ?_) rfl rfl (by kernel_rfl) (by kernel_rfl) (by kernel_rfl) (fun _ _ _ h => h) (Or.inl ⟨by rfl, ?_⟩) (by assumption) ?_
  rotate_left
  · intro w hSw
    (try dsimp only at hSw)
    go_simp
    with_reducible rfl
  simp only [Act.put, List.setIfInBounds_toArray, List.set_cons_zero, List.set_cons_succ]
  refine take_to 7 (some 15) (v := ?_) rfl rfl (by kernel_rfl) (by kernel_rfl) (by kernel_rfl) (fun _ _ _ h => h) (Or.inl ⟨by rfl, ?_⟩) (by assumption) ?_
  rotate_left
  · intro w hSw
    (try dsimp only at hSw)
    go_simp
    with_reducible rfl
  simp only [Act.put, List.setIfInBounds_toArray, List.set_cons_zero, List.set_cons_succ]
  refine wpAnyH_ready (rs := [8, 12]) (by kernel_rfl) (by simp) ?_
  refine AllReadyH.cons rfl (fun K hK => ?_) (AllReadyH.cons rfl (fun K hK => ?_) AllReadyH.nil)
  · go_simp
    refine Calls.mono (HF2.out _ (Below.refl _ _).drew) ?_
    rintro e w2 ⟨rfl, hbw2, hw2⟩
    go_wp2_with fail
    refine hK.out _ _ (HNX.out _ hbw2) (fun hHeld => ?_)
    clear hK K
    try simp only [Act.put, List.setIfInBounds_toArray, List.set_cons_zero, List.set_cons_succ]
    refine take_to 9 (some 7) (v := ?_) rfl rfl (by kernel_rfl) (by kernel_rfl) (by kernel_rfl) (fun _ _ _ h => h) (Or.inl ⟨by rfl, ?_⟩) (by assumption) ?_
    rotate_left
    · intro w hSw
      (try dsimp only at hSw)
      go_simp
      with_reducible rfl
    simp only [Act.put, List.setIfInBounds_toArray, List.set_cons_zero, List.set_cons_succ]
    refine take_to 10 (some 17) (v := ?_) rfl rfl (by kernel_rfl) (by kernel_rfl) (by kernel_rfl) (fun _ _ _ h => h) (Or.inl ⟨by rfl, ?_⟩) (by assumption) ?_
    rotate_left
    · intro w hSw
      (try dsimp only at hSw)
      go_simp
      with_reducible rfl
    simp only [Act.put, List.setIfInBounds_toArray, List.set_cons_zero, List.set_cons_succ]
    refine take_to 11 (some 18) (v := ?_) rfl rfl (by kernel_rfl) (by kernel_rfl) (by kernel_rfl) (fun _ _ _ h => h) (Or.inl ⟨by rfl, ?_⟩) (by assumption) ?_
    rotate_left
    · intro w hSw
      (try dsimp only at hSw)
      go_simp
      with_reducible rfl
    simp only [Act.put, List.setIfInBounds_toArray, List.set_cons_zero, List.set_cons_succ]
    refine wpAnyH_ready (rs := [12]) (by kernel_rfl) (by simp) ?_
    refine AllReadyH.cons rfl (fun K hK => ?_) AllReadyH.nil
    go_simp
    refine hK.out _ _ (HNX.out _ (hbw2.alloc hbw2.size _)) (fun hHeld => ?_)
    clear hK K
    try simp only [Act.put, List.setIfInBounds_toArray, List.set_cons_zero, List.set_cons_succ]
    refine wpAnyH_ready (rs := [13]) (by kernel_rfl) (by simp) ?_
    refine AllReadyH.cons rfl (fun K hK => ?_) AllReadyH.nil
    go_simp
    refine hK.out _ _ (HNX.out _ (hbw2.alloc hbw2.size _)) (fun hHeld => ?_)
    clear hK K
    try simp only [Act.put, List.setIfInBounds_toArray, List.set_cons_zero, List.set_cons_succ]
    refine take_to 14 (some 6) (v := ?_) rfl rfl (by kernel_rfl) (by kernel_rfl) (by kernel_rfl) (fun _ _ _ h => h) (Or.inl ⟨by rfl, ?_⟩) (by assumption) ?_
    rotate_left
    · intro w hSw
      (try dsimp only at hSw)
      go_simp
      with_reducible rfl
    simp only [Act.put, List.setIfInBounds_toArray, List.set_cons_zero, List.set_cons_succ]
    refine wpAnyH_done (by kernel_rfl) ?_ _
    refine NoPanic.normal ?_
    have hb3 : Below wo.heap.size wo (w2.alloc (.cells (k8L (t4, d4, t5, d5, t6, d6, t7, d7)).toArray 30)) := hbw2.alloc hbw2.size _
    have ho3 : OwnRow (w2.alloc (.cells (k8L (t4, d4, t5, d5, t6, d6, t7, d7)).toArray 30)) w2.heap.size 30 (k8L (t4, d4, t5, d5, t6, d6, t7, d7)) := heap_alloc_new w2 _
    have hbw3 := HBA.out.trans (hb3.mono HBA.out.size)
    have hq5 := (HNX.out _ hb3).2.2.2.2.2.2.2.2.1
    have hc1 := (HRC.out _ hbw3).2
    clear HNX HF2
    change Exit.then _ _ _ _ (w2.alloc (.cells (k8L (t4, d4, t5, d5, t6, d6, t7, d7)).toArray 30))
    generalize (w2.alloc (.cells (k8L (t4, d4, t5, d5, t6, d6, t7, d7)).toArray 30)) = w3 at hb3 ho3 hbw3 hq5 hc1 ⊢
    have hlt3 := ho3.lt
    obtain ⟨⟨z0, z1, z2, z3⟩, z4, z5, z6, z7⟩ := ho3.eight
    by_cases hG : E = 0
    · subst hG
      go_wp2_with (first
        | (refine wpList_store_mid rfl 30 (.tmp 25) (.tmp 23) rfl g (k * 4362 + 2) (k8L (t4, d4, t5, d5, t6, d6, t7, d7)).toArray rfl rfl (HTH.out _ hbw3) info_keys (k8L_one _) ?_))
      go_ret
      exact ⟨rfl, HR2.out ▸ HS.out _ hbw3, (Spare.of_below hbw3).setCells _ _⟩
    · have hd : (E != 0) = true := by simpa using hG
      have hR3 := HR2.out
      rw [if_neg hG] at hR3
      go_wp2
      go_ret
      (try rw [hR3])
      exact ⟨rfl, HW.out _ hbw3, Spare.of_below hbw3⟩
  · go_simp
    refine hK.out _ _ (HNX.out _ (((Below.refl _ _).drew).alloc (Nat.le_refl _) _)) (fun hHeld => ?_)
    clear hK K
    try simp only [Act.put, List.setIfInBounds_toArray, List.set_cons_zero, List.set_cons_succ]
    refine wpAnyH_ready (rs := [8]) (by kernel_rfl) (by simp) ?_
    refine AllReadyH.cons rfl (fun K hK => ?_) AllReadyH.nil
    go_simp
    refine Calls.mono (HF2.out _ (((Below.refl _ _).drew).alloc (Nat.le_refl _) _)) ?_
    rintro e w2 ⟨rfl, hbw2, hw2⟩
    go_wp2_with fail
    refine hK.out _ _ (HNX.out _ hbw2) (fun hHeld => ?_)
    clear hK K
    try simp only [Act.put, List.setIfInBounds_toArray, List.set_cons_zero, List.set_cons_succ]
    have hX : OwnRow w2 wo.heap.size 30 [.bool false, .int .i64 0, .bool false, .int .i64 0, .bool false, .int .i64 0, .bool false, .int .i64 0] := own_drew hw2
    have hY : w2.there wo.heap.size 0 8 := fun j hj => ⟨by rw [hX.cell, List.getElem?_eq_getElem (by simpa using hj)]; rfl, hX.free _⟩
    refine take_to 9 (some 7) (v := ?_) rfl rfl (by kernel_rfl) (by kernel_rfl) (by kernel_rfl) (fun _ _ _ h => h) (Or.inl ⟨by rfl, ?_⟩) (by assumption) ?_
    rotate_left
    · intro w hSw
      (try dsimp only at hSw)
      go_simp
      with_reducible rfl
    simp only [Act.put, List.setIfInBounds_toArray, List.set_cons_zero, List.set_cons_succ]
    refine take_to 10 (some 17) (v := ?_) rfl rfl (by kernel_rfl) (by kernel_rfl) (by kernel_rfl) (fun _ _ _ h => h) (Or.inl ⟨by rfl, ?_⟩) (by assumption) ?_
    rotate_left
    · intro w hSw
      (try dsimp only at hSw)
      go_simp
      with_reducible rfl
    simp only [Act.put, List.setIfInBounds_toArray, List.set_cons_zero, List.set_cons_succ]
    refine take_to 11 (some 18) (v := ?_) rfl rfl (by kernel_rfl) (by kernel_rfl) (by kernel_rfl) (fun _ _ _ h => h) (Or.inl ⟨by rfl, ?_⟩) (by assumption) ?_
    rotate_left
    · intro w hSw
      (try dsimp only at hSw)
      go_simp
      with_reducible rfl
    simp only [Act.put, List.setIfInBounds_toArray, List.set_cons_zero, List.set_cons_succ]
    refine wpAnyH_ready (rs := [13]) (by kernel_rfl) (by simp) ?_
    refine AllReadyH.cons rfl (fun K hK => ?_) AllReadyH.nil
    rw [if_pos (by rfl)]
    refine wp_store_mid _ _ _ rfl wo.heap.size 0 (k8L (t4, d4, t5, d5, t6, d6, t7, d7)).toArray rfl rfl hY info_keys (k8L_one _) ?_
    refine hK.out _ _ (HNX.out _ (below_setCells (Nat.le_refl _) _ _ _ _ hbw2)) (fun hHeld => ?_)
    clear hK K
    try simp only [Act.put, List.setIfInBounds_toArray, List.set_cons_zero, List.set_cons_succ]
    refine take_to 14 (some 6) (v := ?_) rfl rfl (by kernel_rfl) (by kernel_rfl) (by kernel_rfl) (fun _ _ _ h => h) (Or.inl ⟨by rfl, ?_⟩) (by assumption) ?_
    rotate_left
    · intro w hSw
      (try dsimp only at hSw)
      go_simp
      with_reducible rfl
    simp only [Act.put, List.setIfInBounds_toArray, List.set_cons_zero, List.set_cons_succ]
    refine wpAnyH_done (by kernel_rfl) ?_ _
    refine NoPanic.normal ?_
    have hb3 : Below wo.heap.size wo (w2.setCells wo.heap.size 0 (k8L (t4, d4, t5, d5, t6, d6, t7, d7))) := below_setCells (Nat.le_refl _) _ _ _ _ hbw2
    have ho3 : OwnRow (w2.setCells wo.heap.size 0 (k8L (t4, d4, t5, d5, t6, d6, t7, d7))) wo.heap.size 30 (k8L (t4, d4, t5, d5, t6, d6, t7, d7)) := hX.setCells (k8L (t4, d4, t5, d5, t6, d6, t7, d7)) 0 _ _ (Nat.le_refl _)
    have hbw3 := HBA.out.trans (hb3.mono HBA.out.size)
    have hq5 := (HNX.out _ hb3).2.2.2.2.2.2.2.2.1
    have hc1 := (HRC.out _ hbw3).2
    clear HNX HF2
    change Exit.then _ _ _ _ (w2.setCells wo.heap.size 0 (k8L (t4, d4, t5, d5, t6, d6, t7, d7)))
    generalize (w2.setCells wo.heap.size 0 (k8L (t4, d4, t5, d5, t6, d6, t7, d7))) = w3 at hb3 ho3 hbw3 hq5 hc1 ⊢
    have hlt3 := ho3.lt
    obtain ⟨⟨z0, z1, z2, z3⟩, z4, z5, z6, z7⟩ := ho3.eight
    by_cases hG : E = 0
    · subst hG
      go_wp2_with (first
        | (refine wpList_store_mid rfl 30 (.tmp 25) (.tmp 23) rfl g (k * 4362 + 2) (k8L (t4, d4, t5, d5, t6, d6, t7, d7)).toArray rfl rfl (HTH.out _ hbw3) info_keys (k8L_one _) ?_))
      go_ret
      exact ⟨rfl, HR2.out ▸ HS.out _ hbw3, (Spare.of_below hbw3).setCells _ _⟩
    · have hd : (E != 0) = true := by simpa using hG
      have hR3 := HR2.out
      rw [if_neg hG] at hR3
      go_wp2
      go_ret
      (try rw [hR3])
      exact ⟨rfl, HW.out _ hbw3, Spare.of_below hbw3⟩

end Go.Proofs.Ytlhmfbkpmfofiai

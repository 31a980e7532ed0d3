/- The contracts of flat.process.unmap, protect and seal: regions are cut, guarded, sealed. -/
import Derived.Test.YtlhmfbkpmfofiaiFlat3
import Derived.Deep.RegionHeld3
namespace Go.Proofs.Ytlhmfbkpmfofiai
set_option maxRecDepth 100000
open Go.RowKit
set_option linter.unusedSimpArgs false
set_option linter.unusedVariables false

/-- An operation of such a region is taken first; the slot that it writes is told. -/
theorem take_to {P : Program} {md : Region.Mode} {ops : Array Oper} {Q : Exit → Act → World → Prop} {S : World → Prop} (i : Nat) (dst : Option Tmp) {oi : Oper} {v : Value} {fuel : Nat} {listed : Array Bool} {a : Act} {w : World} (hi : ops[i]? = some oi) (hd : oi.dst = dst)
    (hs : Region.noSelect ops = true) (hf : Region.free md ops listed i = true) (hr : (Region.ready md ops listed).contains i = true)
    (hQ : ∀ c a w, Q (.panic c) (a.put dst v) w → Q (.panic c) a w) (hy : YieldsIf P ops S oi v a) (hS : S w)
    (h : wpAnyH P md ops Q S fuel (listed.setIfInBounds i true) (a.put dst v) w) : wpAnyH P md ops Q S (fuel + 1) listed a w := by
  subst hd
  exact wpAnyH_take hi hs hf hr hQ hy hS h

/-- What keep does with a list that was made. -/
def KP (base g : Nat) (k : Nat) (wo : World) (S' : W4) (E : Int) (w' : World) (v : Value) : Prop :=
  Calls Try.prog 50 #[(.pointer (some ⟨g, k * 4362, none⟩)), v, .int .i64 E] w' fun r w2 => r = .returned (.int .i64 E) ∧ WOK base g w2 S' ∧ Spare g wo w2

theorem kp_of {base g : Nat} {S : W4} {k : Nat} (hk : k < 4) {wo w' : World} {v : Value} {l : List R6} {E : Int} (h : WOK base g w' S) (ho : OwnR 46 6 encR base w' v l) (hs : Spare g wo w') :
    KP base g k wo (if E = 0 then upd S k { S k with L := l } else S) E w' v :=
  (keep_any base g S k hk v l E w' h ho).mono fun r w2 ⟨h1, h2, h3⟩ => ⟨h1, h2, hs.trans h3⟩

theorem spare_of {g : Nat} {wo w1 w2 : World} (h1 : Below wo.heap.size wo w1) (h2 : Below w1.heap.size w1 w2) : Spare g wo w2 := (Spare.of_below h1).trans (Spare.of_below h2)

theorem cut_pack {base g : Nat} {S : W4} {k : Nat} (hk : k < 4) {wo : World} (h : WOK base g wo S) {v : Value} {l : List R6} (hv : IsRecs encR 64 wo v l) (f t : Int) (w1 : World) (hb : Below wo.heap.size wo w1) :
    Calls Try.prog 54 #[v, .int .i64 f, .int .i64 t] w1 fun e w' => ∃ a n c, e = .returned (lstV (.slice a n c) (wrE l f t)) ∧ Hid (KP base g k wo (if wrE l f t = 0 then upd S k { S k with L := cutL l f t } else S) (wrE l f t) w' (.slice a n c)) ∧ Spare g wo w' := by
  refine (cut_any v l f t 64 w1 (hv.below hb) (by decide)).mono ?_
  rintro e w2 ⟨v2, rfl, ho, hb2⟩
  have h2 := h.below (hb.trans (hb2.mono hb.size))
  have ho2 : OwnR 46 6 encR base w2 v2 (cutL l f t) := ho.mono (Nat.le_trans h.le hb.size)
  obtain ⟨a, c, rfl⟩ := ho.form
  exact ⟨a, _, c, rfl, kp_of hk h2 ho2 (spare_of hb hb2), spare_of hb hb2⟩

theorem seal_pack {base g : Nat} {S : W4} {k : Nat} (hk : k < 4) {wo : World} (h : WOK base g wo S) {v : Value} {l : List R6} (hv : IsRecs encR 64 wo v l) (f t : Int) (w1 : World) (hb : Below wo.heap.size wo w1) :
    Calls Try.prog 57 #[v, .int .i64 f, .int .i64 t] w1 fun e w' => ∃ a n c, e = .returned (lstV (.slice a n c) (chE l f t)) ∧ Hid (KP base g k wo (if chE l f t = 0 then upd S k { S k with L := chL seA l f t } else S) (chE l f t) w' (.slice a n c)) ∧ Spare g wo w' := by
  refine (seal_any v l f t 64 w1 (hv.below hb) (by decide)).mono ?_
  rintro e w2 ⟨v2, rfl, ho, hb2⟩
  have h2 := h.below (hb.trans (hb2.mono hb.size))
  have ho2 : OwnR 46 6 encR base w2 v2 (chL seA l f t) := ho.mono (Nat.le_trans h.le hb.size)
  obtain ⟨a, c, rfl⟩ := ho.form
  exact ⟨a, _, c, rfl, kp_of hk h2 ho2 (spare_of hb hb2), spare_of hb hb2⟩

theorem guard_pack {base g : Nat} {S : W4} {k : Nat} (hk : k < 4) {wo : World} (h : WOK base g wo S) {v : Value} {l : List R6} (hv : IsRecs encR 64 wo v l) (f t r y : Int) (w1 : World) (hb : Below wo.heap.size wo w1) :
    Calls Try.prog 56 #[v, .int .i64 f, .int .i64 t, .int .i64 r, .int .i64 y] w1 fun e w' => ∃ a n c, e = .returned (lstV (.slice a n c) (chE l f t)) ∧ Hid (KP base g k wo (if chE l f t = 0 then upd S k { S k with L := chL (guA r y) l f t } else S) (chE l f t) w' (.slice a n c)) ∧ Spare g wo w' := by
  refine (guard_any v l f t r y 64 w1 (hv.below hb) (by decide)).mono ?_
  rintro e w2 ⟨v2, rfl, ho, hb2⟩
  have h2 := h.below (hb.trans (hb2.mono hb.size))
  have ho2 : OwnR 46 6 encR base w2 v2 (chL (guA r y) l f t) := ho.mono (Nat.le_trans h.le hb.size)
  obtain ⟨a, c, rfl⟩ := ho.form
  exact ⟨a, _, c, rfl, kp_of hk h2 ho2 (spare_of hb hb2), spare_of hb hb2⟩

/-- Cells of another block stay as they are. -/
theorem nxs {g : Nat} {wr b : World} {B : Nat} {i j : Nat} {u v : Value} (h1 : wr.cell? ⟨B, i, none⟩ = some u) (h2 : wr.cell? ⟨B, j, none⟩ = some v) (hne : B ≠ g) (h : Spare g wr b) : b.cell? ⟨B, i, none⟩ = some u ∧ b.cell? ⟨B, j, none⟩ = some v ∧ Spare g wr b :=
  ⟨h.cell h1 hne, h.cell h2 hne, h⟩

theorem nxs4 {g : Nat} {wr b : World} {B : Nat} {i j i' j' : Nat} {u v u' v' : Value} (h1 : wr.cell? ⟨B, i, none⟩ = some u) (h2 : wr.cell? ⟨B, j, none⟩ = some v) (h3 : wr.cell? ⟨B, i', none⟩ = some u') (h4 : wr.cell? ⟨B, j', none⟩ = some v') (hne : B ≠ g) (h : Spare g wr b) :
    b.cell? ⟨B, i, none⟩ = some u ∧ b.cell? ⟨B, j, none⟩ = some v ∧ b.cell? ⟨B, i', none⟩ = some u' ∧ b.cell? ⟨B, j', none⟩ = some v' ∧ Spare g wr b :=
  ⟨h.cell h1 hne, h.cell h2 hne, h.cell h3 hne, h.cell h4 hne, h⟩

/-- The cells of what is done, laid in a box of their own. -/
theorem box12 {w w1 : World} {a0 a1 a2 a3 a4 a5 a6 a7 a8 a9 a10 a11 : Value} {e : TypeId} (hb : Below (w.alloc (.cells #[a0, a1, a2, a3, a4, a5, a6, a7, a8, a9, a10, a11] e)).heap.size (w.alloc (.cells #[a0, a1, a2, a3, a4, a5, a6, a7, a8, a9, a10, a11] e)) w1) :
    OwnRow w1 w.heap.size e [a0, a1, a2, a3, a4, a5, a6, a7, a8, a9, a10, a11] := own_one (xs := [a0, a1, a2, a3, a4, a5, a6, a7, a8, a9, a10, a11]) hb

theorem OwnRow.twelve {w : World} {g : Nat} {e : TypeId} {a0 a1 a2 a3 a4 a5 a6 a7 a8 a9 a10 a11 : Value} (h : OwnRow w g e [a0, a1, a2, a3, a4, a5, a6, a7, a8, a9, a10, a11]) :
    (w.cell? ⟨g, 0, none⟩ = some a0 ∧ w.cell? ⟨g, 1, none⟩ = some a1 ∧ w.cell? ⟨g, 2, none⟩ = some a2 ∧ w.cell? ⟨g, 3, none⟩ = some a3 ∧ w.cell? ⟨g, 4, none⟩ = some a4 ∧ w.cell? ⟨g, 5, none⟩ = some a5) ∧
    w.cell? ⟨g, 6, none⟩ = some a6 ∧ w.cell? ⟨g, 7, none⟩ = some a7 ∧ w.cell? ⟨g, 8, none⟩ = some a8 ∧ w.cell? ⟨g, 9, none⟩ = some a9 ∧ w.cell? ⟨g, 10, none⟩ = some a10 ∧ w.cell? ⟨g, 11, none⟩ = some a11 :=
  ⟨⟨by rw [h.cell]; rfl, by rw [h.cell]; rfl, by rw [h.cell]; rfl, by rw [h.cell]; rfl, by rw [h.cell]; rfl, by rw [h.cell]; rfl⟩,
    by rw [h.cell]; rfl, by rw [h.cell]; rfl, by rw [h.cell]; rfl, by rw [h.cell]; rfl, by rw [h.cell]; rfl, by rw [h.cell]; rfl⟩

set_option maxHeartbeats 3200000 in
theorem unmap14_any (base g : Nat) (S : W4) (k : Nat) (hk : k < 4) (o : O12) (hw : bdI o.count) (w : World) (h : WOK base g w S) (hi : Inv S) :
    Calls Try.prog 37 #[(.pointer (some ⟨g, k * 4362, none⟩)), opV o] w fun e w' => e = .returned (.int .i64 (unmE (S k) o)) ∧ WOK base g w' (if unmE (S k) o = 0 then upd S k (unmP (S k) o) else S) ∧ Spare g w w' := by
  have HW : Hid (∀ w1, Below w.heap.size w w1 → WOK base g w1 S) := fun w1 hb => h.below hb
  have HI : Hid (Inv S) := hi
  obtain ⟨a, cap, h1, h2, -⟩ := h.recs hi hk
  have HR : Hid (∀ w1, Below w.heap.size w w1 → IsRecs encR 64 w1 (.slice a (S k).L.length cap) (S k).L ∧ w1.cell? ⟨g, k * 4362 + 1, none⟩ = some (.slice a (S k).L.length cap)) := fun w1 hb => ⟨h2.below hb, (hb.cell (cell_lt h1)).trans h1⟩
  have hg := h.glt
  have HSP : Hid (∀ w1, Calls Try.prog 52 #[opV o] w1 fun e w' => e = .returned (.bool (isS o)) ∧ Below w1.heap.size w1 w') := fun w1 => isSpan14_any o hw w1
  have HSE : Hid (∀ w1, Below w.heap.size w w1 → isS o = true → Calls Try.prog 53 #[(.pointer (some ⟨g, k * 4362, none⟩)), opV o] w1 fun e w' => e = .returned (.bool (sld (S k) o)) ∧ Below w1.heap.size w1 w') := fun w1 hb hs => isSealed_any base g S k hk o hs w1 (HW.out _ hb) HI.out
  have HPK : Hid (∀ wo, Below w.heap.size w wo → ∀ w1, Below wo.heap.size wo w1 → Calls Try.prog 54 #[.slice a (S k).L.length cap, .int .i64 o.page, .int .i64 (o.page + o.count)] w1 fun e w' => ∃ a n c, e = .returned (lstV (.slice a n c) (wrE (S k).L o.page (o.page + o.count))) ∧ Hid (KP base g k wo (if wrE (S k).L o.page (o.page + o.count) = 0 then upd S k (unmP (S k) o) else S) (wrE (S k).L o.page (o.page + o.count)) w' (.slice a n c)) ∧ Spare g wo w') := fun wo hb w1 hb1 => cut_pack hk (HW.out _ hb) (HR.out _ hb).1 o.page (o.page + o.count) w1 hb1
  have HE : Hid (unmE (S k) o = if isS o then if sld (S k) o then 7 else wrE (S k).L o.page (o.page + o.count) else 2) := rfl
  have HIS : Hid (isS o = true → IntKind.i64.wrap (o.page + o.count) = o.page + o.count) := fun hs => by
    obtain ⟨q0, q1, q2⟩ := isS_iff.1 hs
    rw [IntKind.wrap_i64]; omega
  clear h h2 hi hw
  generalize wrE (S k).L o.page (o.page + o.count) = C at *
  generalize unmP (S k) o = P at *
  generalize unmE (S k) o = E at *
  obtain ⟨R, hR⟩ : ∃ R, Hid (R = if E = 0 then upd S k P else S) := ⟨_, rfl⟩
  rw [← hR.out]
  generalize isS o = I at *
  generalize sld (S k) o = D at *
  generalize (S k).L.length = m at *
  obtain ⟨kind, proc, page, count, rights, key, tagged, draw, addr, size, value, tag⟩ := o
  simp only at HPK HIS ⊢
  have hbA : Below w.heap.size w (w.alloc (.cells #[.int .i64 kind, .int .i64 proc, .int .i64 page, .int .i64 count, .int .i64 rights, .int .i64 key, .bool tagged, .int .i64 draw, .int .i64 addr, .int .i64 size, .int .i64 value, .int .i64 tag] 24)) := (Below.refl _ _).alloc (Nat.le_refl _) _
  have HC : Hid (∀ w1, Below (w.alloc (.cells #[.int .i64 kind, .int .i64 proc, .int .i64 page, .int .i64 count, .int .i64 rights, .int .i64 key, .bool tagged, .int .i64 draw, .int .i64 addr, .int .i64 size, .int .i64 value, .int .i64 tag] 24)).heap.size (w.alloc (.cells #[.int .i64 kind, .int .i64 proc, .int .i64 page, .int .i64 count, .int .i64 rights, .int .i64 key, .bool tagged, .int .i64 draw, .int .i64 addr, .int .i64 size, .int .i64 value, .int .i64 tag] 24)) w1 → OwnRow w1 w.heap.size 24 [.int .i64 kind, .int .i64 proc, .int .i64 page, .int .i64 count, .int .i64 rights, .int .i64 key, .bool tagged, .int .i64 draw, .int .i64 addr, .int .i64 size, .int .i64 value, .int .i64 tag] ∧ Below w.heap.size w w1 ∧ w.heap.size < w1.heap.size) := fun w1 hb => ⟨box12 hb, hbA.trans (hb.mono hbA.size), (box12 hb).lt⟩
  have HBA : Hid (Below w.heap.size w (w.alloc (.cells #[.int .i64 kind, .int .i64 proc, .int .i64 page, .int .i64 count, .int .i64 rights, .int .i64 key, .bool tagged, .int .i64 draw, .int .i64 addr, .int .i64 size, .int .i64 value, .int .i64 tag] 24))) := hbA
  clear hbA
  cases I
  · have HQ : Hid (E = 2) := HE.out
    clear HE HPK
    go_enter Try.func37, Try.ntmps37
    go_wp2_with (first | (go_at_call 52; refine (HSP.out _).mono ?_; rintro e w1 ⟨rfl, hb1⟩; obtain ⟨hbx, hbw, hlt⟩ := HC.out _ hb1; obtain ⟨⟨b0, b1, b2, b3, b4, b5⟩, b6, b7, b8, b9, b10, b11⟩ := hbx.twelve; clear hbx))
    go_ret
    have hR2 := hR.out
    rw [HQ.out] at hR2 ⊢
    rw [hR2]
    exact ⟨rfl, HW.out _ hbw, Spare.of_below hbw⟩
  have HQ0 : Hid (IntKind.i64.wrap (page + count) = page + count) := HIS.out rfl
  clear HIS
  cases D
  case true =>
    have HQ : Hid (E = 7) := HE.out
    clear HE HPK
    go_enter Try.func37, Try.ntmps37
    go_wp2_with (first | (go_at_call 52; refine (HSP.out _).mono ?_; rintro e w1 ⟨rfl, hb1⟩; obtain ⟨hbx, hbw, hlt⟩ := HC.out _ hb1; obtain ⟨⟨b0, b1, b2, b3, b4, b5⟩, b6, b7, b8, b9, b10, b11⟩ := hbx.twelve; clear hbx) | (go_at_call 53; refine (HSE.out _ hbw (by trivial)).mono ?_; rintro e w1 ⟨rfl, hb2⟩; replace hb1 := hb1.trans (hb2.mono hb1.size); clear b0 b1 b2 b3 b4 b5 b6 b7 b8 b9 b10 b11 hlt hbw hb2; obtain ⟨hbx, hbw, hlt⟩ := HC.out _ hb1; obtain ⟨⟨b0, b1, b2, b3, b4, b5⟩, b6, b7, b8, b9, b10, b11⟩ := hbx.twelve; clear hbx))
    go_ret
    have hR2 := hR.out
    rw [HQ.out] at hR2 ⊢
    rw [hR2]
    exact ⟨rfl, HW.out _ hbw, Spare.of_below hbw⟩
  have HQ : Hid (E = C) := HE.out
  obtain rfl := HQ.out
  clear HE HQ
  go_enter Try.func37, Try.ntmps37
  go_wp2_with (first | (go_at_call 52; refine (HSP.out _).mono ?_; rintro e w1 ⟨rfl, hb1⟩; obtain ⟨hbx, hbw, hlt⟩ := HC.out _ hb1; obtain ⟨⟨b0, b1, b2, b3, b4, b5⟩, b6, b7, b8, b9, b10, b11⟩ := hbx.twelve; clear hbx) | (go_at_call 53; refine (HSE.out _ hbw (by trivial)).mono ?_; rintro e w1 ⟨rfl, hb2⟩; replace hb1 := hb1.trans (hb2.mono hb1.size); clear b0 b1 b2 b3 b4 b5 b6 b7 b8 b9 b10 b11 hlt hbw hb2; obtain ⟨hbx, hbw, hlt⟩ := HC.out _ hb1; obtain ⟨⟨b0, b1, b2, b3, b4, b5⟩, b6, b7, b8, b9, b10, b11⟩ := hbx.twelve; clear hbx))
  have hcr := (HR.out _ hbw).2
  obtain ⟨wo, rfl⟩ : ∃ wo, wo = w1 := ⟨_, rfl⟩
  have HPK2 : Hid (∀ w1, Below wo.heap.size wo w1 → Calls Try.prog 54 #[.slice a m cap, .int .i64 page, .int .i64 (IntKind.i64.wrap (page + count))] w1 fun e w' => ∃ a n c, e = .returned (lstV (.slice a n c) E) ∧ Hid (KP base g k wo (if E = 0 then upd S k P else S) E w' (.slice a n c)) ∧ Spare g wo w') := fun w1 hb => by rw [HQ0.out]; exact HPK.out _ hbw _ hb
  have HSPW : Hid (Spare g w wo) := Spare.of_below hbw
  clear HPK HR HSP HQ0
  refine wp_region_noPanic ?_
  refine wp_region_held_drew (S := (fun w' => w'.cell? ⟨w.heap.size, 2, none⟩ = some (.int .i64 page) ∧ w'.cell? ⟨w.heap.size, 3, none⟩ = some (.int .i64 count) ∧ Spare g wo w')) (by kernel_rfl) (by exact nxs b2 b3 (Nat.ne_of_gt hg) (Spare.of_below (Below.refl _ _).drew)) (fun hHeld => ?_)
  refine take_to 0 (some 11) (v := ?_) rfl rfl (by kernel_rfl) (by kernel_rfl) (by kernel_rfl) (fun _ _ _ h => h) (Or.inl ⟨by rfl, ?_⟩) (by assumption) ?_
  rotate_left
  · intro w hSw
    (try dsimp only at hSw)
    go_simp
    with_reducible rfl
  simp only [Act.put, List.setIfInBounds_toArray, List.set_cons_zero, List.set_cons_succ]
  refine take_to 1 (some 12) (v := ?_) rfl rfl (by kernel_rfl) (by kernel_rfl) (by kernel_rfl) (fun _ _ _ h => h) (Or.inl ⟨by rfl, ?_⟩) (by assumption) ?_
  rotate_left
  · intro w hSw
    (try dsimp only at hSw)
    go_simp
    with_reducible rfl
  simp only [Act.put, List.setIfInBounds_toArray, List.set_cons_zero, List.set_cons_succ]
  refine take_to 2 (some 13) (v := ?_) rfl rfl (by kernel_rfl) (by kernel_rfl) (by kernel_rfl) (fun _ _ _ h => h) (Or.inl ⟨by rfl, ?_⟩) (by assumption) ?_
  rotate_left
  · intro w hSw
    (try dsimp only at hSw)
    go_simp
    with_reducible rfl
  simp only [Act.put, List.setIfInBounds_toArray, List.set_cons_zero, List.set_cons_succ]
  refine take_to 3 (some 14) (v := ?_) rfl rfl (by kernel_rfl) (by kernel_rfl) (by kernel_rfl) (fun _ _ _ h => h) (Or.inl ⟨by rfl, ?_⟩) (by assumption) ?_
  rotate_left
  · intro w hSw
    (try dsimp only at hSw)
    go_simp
    with_reducible rfl
  simp only [Act.put, List.setIfInBounds_toArray, List.set_cons_zero, List.set_cons_succ]
  refine take_to 5 (some 16) (v := ?_) rfl rfl (by kernel_rfl) (by kernel_rfl) (by kernel_rfl) (fun _ _ _ h => h) (Or.inl ⟨by rfl, ?_⟩) (by assumption) ?_
  rotate_left
  · intro w hSw
    (try dsimp only at hSw)
    go_simp
    with_reducible rfl
  simp only [Act.put, List.setIfInBounds_toArray, List.set_cons_zero, List.set_cons_succ]
  refine take_to 6 (some 17) (v := ?_) rfl rfl (by kernel_rfl) (by kernel_rfl) (by kernel_rfl) (fun _ _ _ h => h) (Or.inl ⟨by rfl, ?_⟩) (by assumption) ?_
  rotate_left
  · intro w hSw
    (try dsimp only at hSw)
    go_simp
    with_reducible rfl
  simp only [Act.put, List.setIfInBounds_toArray, List.set_cons_zero, List.set_cons_succ]
  refine take_to 7 (some 18) (v := ?_) rfl rfl (by kernel_rfl) (by kernel_rfl) (by kernel_rfl) (fun _ _ _ h => h) (Or.inl ⟨by rfl, ?_⟩) (by assumption) ?_
  rotate_left
  · intro w hSw
    (try dsimp only at hSw)
    go_simp
    with_reducible rfl
  simp only [Act.put, List.setIfInBounds_toArray, List.set_cons_zero, List.set_cons_succ]
  refine take_to 8 (some 19) (v := ?_) rfl rfl (by kernel_rfl) (by kernel_rfl) (by kernel_rfl) (fun _ _ _ h => h) (Or.inl ⟨by rfl, ?_⟩) (by assumption) ?_
  rotate_left
  · intro w hSw
    (try dsimp only at hSw)
    go_simp
    with_reducible rfl
  simp only [Act.put, List.setIfInBounds_toArray, List.set_cons_zero, List.set_cons_succ]
  refine take_to 9 (some 20) (v := ?_) rfl rfl (by kernel_rfl) (by kernel_rfl) (by kernel_rfl) (fun _ _ _ h => h) (Or.inl ⟨by rfl, ?_⟩) (by assumption) ?_
  rotate_left
  · intro w hSw
    (try dsimp only at hSw)
    go_simp
    with_reducible rfl
  simp only [Act.put, List.setIfInBounds_toArray, List.set_cons_zero, List.set_cons_succ]
  refine take_to 10 (some 21) (v := ?_) rfl rfl (by kernel_rfl) (by kernel_rfl) (by kernel_rfl) (fun _ _ _ h => h) (Or.inl ⟨by rfl, ?_⟩) (by assumption) ?_
  rotate_left
  · intro w hSw
    (try dsimp only at hSw)
    go_simp
    with_reducible rfl
  simp only [Act.put, List.setIfInBounds_toArray, List.set_cons_zero, List.set_cons_succ]
  refine take_to 11 (some 22) (v := ?_) rfl rfl (by kernel_rfl) (by kernel_rfl) (by kernel_rfl) (fun _ _ _ h => h) (Or.inl ⟨by rfl, ?_⟩) (by assumption) ?_
  rotate_left
  · intro w hSw
    (try dsimp only at hSw)
    go_simp
    with_reducible rfl
  simp only [Act.put, List.setIfInBounds_toArray, List.set_cons_zero, List.set_cons_succ]
  refine wpAnyH_ready (rs := [4]) (by kernel_rfl) (by simp) ?_
  refine AllReadyH.cons rfl (fun K hK => ?_) AllReadyH.nil
  go_simp
  refine hK.out _ _ (by exact nxs b2 b3 (Nat.ne_of_gt hg) (Spare.of_below (Below.refl _ _).drew)) (fun hHeld => ?_)
  clear hK K
  try simp only [Act.put, List.setIfInBounds_toArray, List.set_cons_zero, List.set_cons_succ]
  refine wpAnyH_ready (rs := [12]) (by kernel_rfl) (by simp) ?_
  refine AllReadyH.cons rfl (fun K hK => ?_) AllReadyH.nil
  go_simp
  refine Calls.mono (HPK2.out _ (Below.refl _ _).drew) ?_
  rintro e w2 ⟨a2, n2, c2, rfl, HK2, hsp2⟩
  go_wp2_with fail
  refine hK.out _ _ (by exact nxs b2 b3 (Nat.ne_of_gt hg) (hsp2)) (fun hHeld => ?_)
  clear hK K
  try simp only [Act.put, List.setIfInBounds_toArray, List.set_cons_zero, List.set_cons_succ]
  refine take_to 13 (some 24) (v := ?_) rfl rfl (by kernel_rfl) (by kernel_rfl) (by kernel_rfl) (fun _ _ _ h => h) (Or.inl ⟨by rfl, ?_⟩) (by assumption) ?_
  rotate_left
  · intro w hSw
    (try dsimp only at hSw)
    go_simp
    with_reducible rfl
  simp only [Act.put, List.setIfInBounds_toArray, List.set_cons_zero, List.set_cons_succ]
  refine take_to 14 (some 25) (v := ?_) rfl rfl (by kernel_rfl) (by kernel_rfl) (by kernel_rfl) (fun _ _ _ h => h) (Or.inl ⟨by rfl, ?_⟩) (by assumption) ?_
  rotate_left
  · intro w hSw
    (try dsimp only at hSw)
    go_simp
    with_reducible rfl
  simp only [Act.put, List.setIfInBounds_toArray, List.set_cons_zero, List.set_cons_succ]
  refine wpAnyH_ready (rs := [15]) (by kernel_rfl) (by simp) ?_
  refine AllReadyH.cons rfl (fun K hK => ?_) AllReadyH.nil
  go_simp
  refine Calls.mono (HK2.out) ?_
  rintro e w3 ⟨rfl, hw3, hsp3⟩
  have HW3 : Hid _ := hw3
  clear hw3
  go_wp2_with fail
  refine hK.out _ _ (by exact nxs b2 b3 (Nat.ne_of_gt hg) (hsp3)) (fun hHeld => ?_)
  clear hK K
  try simp only [Act.put, List.setIfInBounds_toArray, List.set_cons_zero, List.set_cons_succ]
  refine take_to 16 (some 4) (v := ?_) rfl rfl (by kernel_rfl) (by kernel_rfl) (by kernel_rfl) (fun _ _ _ h => h) (Or.inl ⟨by rfl, ?_⟩) (by assumption) ?_
  rotate_left
  · intro w hSw
    (try dsimp only at hSw)
    go_simp
    with_reducible rfl
  simp only [Act.put, List.setIfInBounds_toArray, List.set_cons_zero, List.set_cons_succ]
  refine wpAnyH_done (by kernel_rfl) ?_ _
  refine NoPanic.normal ?_
  go_wp2
  go_ret
  exact ⟨rfl, hR.out ▸ HW3.out, HSPW.out.trans hsp3⟩

set_option maxHeartbeats 3200000 in
theorem seal14_any (base g : Nat) (S : W4) (k : Nat) (hk : k < 4) (o : O12) (hw : bdI o.count) (w : World) (h : WOK base g w S) (hi : Inv S) :
    Calls Try.prog 39 #[(.pointer (some ⟨g, k * 4362, none⟩)), opV o] w fun e w' => e = .returned (.int .i64 (seaE (S k) o)) ∧ WOK base g w' (if seaE (S k) o = 0 then upd S k (seaP (S k) o) else S) ∧ Spare g w w' := by
  have HW : Hid (∀ w1, Below w.heap.size w w1 → WOK base g w1 S) := fun w1 hb => h.below hb
  have HI : Hid (Inv S) := hi
  obtain ⟨a, cap, h1, h2, -⟩ := h.recs hi hk
  have HR : Hid (∀ w1, Below w.heap.size w w1 → IsRecs encR 64 w1 (.slice a (S k).L.length cap) (S k).L ∧ w1.cell? ⟨g, k * 4362 + 1, none⟩ = some (.slice a (S k).L.length cap)) := fun w1 hb => ⟨h2.below hb, (hb.cell (cell_lt h1)).trans h1⟩
  have hg := h.glt
  have HSP : Hid (∀ w1, Calls Try.prog 52 #[opV o] w1 fun e w' => e = .returned (.bool (isS o)) ∧ Below w1.heap.size w1 w') := fun w1 => isSpan14_any o hw w1
  have HTH : Hid (∀ w1, Below w.heap.size w w1 → isS o = true → Calls Try.prog 55 #[(.pointer (some ⟨g, k * 4362, none⟩)), opV o] w1 fun e w' => e = .returned (.bool (thr (S k) o)) ∧ Below w1.heap.size w1 w') := fun w1 hb hs => isThere_any base g S k hk o hs w1 (HW.out _ hb) HI.out
  have HPK : Hid (∀ wo, Below w.heap.size w wo → ∀ w1, Below wo.heap.size wo w1 → Calls Try.prog 57 #[.slice a (S k).L.length cap, .int .i64 o.page, .int .i64 (o.page + o.count)] w1 fun e w' => ∃ a n c, e = .returned (lstV (.slice a n c) (chE (S k).L o.page (o.page + o.count))) ∧ Hid (KP base g k wo (if chE (S k).L o.page (o.page + o.count) = 0 then upd S k (seaP (S k) o) else S) (chE (S k).L o.page (o.page + o.count)) w' (.slice a n c)) ∧ Spare g wo w') := fun wo hb w1 hb1 => seal_pack hk (HW.out _ hb) (HR.out _ hb).1 o.page (o.page + o.count) w1 hb1
  have HE : Hid (seaE (S k) o = if isS o then if thr (S k) o then chE (S k).L o.page (o.page + o.count) else 1 else 2) := rfl
  have HIS : Hid (isS o = true → IntKind.i64.wrap (o.page + o.count) = o.page + o.count) := fun hs => by
    obtain ⟨q0, q1, q2⟩ := isS_iff.1 hs
    rw [IntKind.wrap_i64]; omega
  clear h h2 hi hw
  generalize chE (S k).L o.page (o.page + o.count) = C at *
  generalize seaP (S k) o = P at *
  generalize seaE (S k) o = E at *
  obtain ⟨R, hR⟩ : ∃ R, Hid (R = if E = 0 then upd S k P else S) := ⟨_, rfl⟩
  rw [← hR.out]
  generalize isS o = I at *
  generalize thr (S k) o = T at *
  generalize (S k).L.length = m at *
  obtain ⟨kind, proc, page, count, rights, key, tagged, draw, addr, size, value, tag⟩ := o
  simp only at HPK HIS ⊢
  have hbA : Below w.heap.size w (w.alloc (.cells #[.int .i64 kind, .int .i64 proc, .int .i64 page, .int .i64 count, .int .i64 rights, .int .i64 key, .bool tagged, .int .i64 draw, .int .i64 addr, .int .i64 size, .int .i64 value, .int .i64 tag] 24)) := (Below.refl _ _).alloc (Nat.le_refl _) _
  have HC : Hid (∀ w1, Below (w.alloc (.cells #[.int .i64 kind, .int .i64 proc, .int .i64 page, .int .i64 count, .int .i64 rights, .int .i64 key, .bool tagged, .int .i64 draw, .int .i64 addr, .int .i64 size, .int .i64 value, .int .i64 tag] 24)).heap.size (w.alloc (.cells #[.int .i64 kind, .int .i64 proc, .int .i64 page, .int .i64 count, .int .i64 rights, .int .i64 key, .bool tagged, .int .i64 draw, .int .i64 addr, .int .i64 size, .int .i64 value, .int .i64 tag] 24)) w1 → OwnRow w1 w.heap.size 24 [.int .i64 kind, .int .i64 proc, .int .i64 page, .int .i64 count, .int .i64 rights, .int .i64 key, .bool tagged, .int .i64 draw, .int .i64 addr, .int .i64 size, .int .i64 value, .int .i64 tag] ∧ Below w.heap.size w w1 ∧ w.heap.size < w1.heap.size) := fun w1 hb => ⟨box12 hb, hbA.trans (hb.mono hbA.size), (box12 hb).lt⟩
  have HBA : Hid (Below w.heap.size w (w.alloc (.cells #[.int .i64 kind, .int .i64 proc, .int .i64 page, .int .i64 count, .int .i64 rights, .int .i64 key, .bool tagged, .int .i64 draw, .int .i64 addr, .int .i64 size, .int .i64 value, .int .i64 tag] 24))) := hbA
  clear hbA
  cases I
  · have HQ : Hid (E = 2) := HE.out
    clear HE HPK
    go_enter Try.func39, Try.ntmps39
    go_wp2_with (first | (go_at_call 52; refine (HSP.out _).mono ?_; rintro e w1 ⟨rfl, hb1⟩; obtain ⟨hbx, hbw, hlt⟩ := HC.out _ hb1; obtain ⟨⟨b0, b1, b2, b3, b4, b5⟩, b6, b7, b8, b9, b10, b11⟩ := hbx.twelve; clear hbx))
    go_ret
    have hR2 := hR.out
    rw [HQ.out] at hR2 ⊢
    rw [hR2]
    exact ⟨rfl, HW.out _ hbw, Spare.of_below hbw⟩
  have HQ0 : Hid (IntKind.i64.wrap (page + count) = page + count) := HIS.out rfl
  clear HIS
  cases T
  case false =>
    have HQ : Hid (E = 1) := HE.out
    clear HE HPK
    go_enter Try.func39, Try.ntmps39
    go_wp2_with (first | (go_at_call 52; refine (HSP.out _).mono ?_; rintro e w1 ⟨rfl, hb1⟩; obtain ⟨hbx, hbw, hlt⟩ := HC.out _ hb1; obtain ⟨⟨b0, b1, b2, b3, b4, b5⟩, b6, b7, b8, b9, b10, b11⟩ := hbx.twelve; clear hbx) | (go_at_call 55; refine (HTH.out _ hbw (by trivial)).mono ?_; rintro e w1 ⟨rfl, hb2⟩; replace hb1 := hb1.trans (hb2.mono hb1.size); clear b0 b1 b2 b3 b4 b5 b6 b7 b8 b9 b10 b11 hlt hbw hb2; obtain ⟨hbx, hbw, hlt⟩ := HC.out _ hb1; obtain ⟨⟨b0, b1, b2, b3, b4, b5⟩, b6, b7, b8, b9, b10, b11⟩ := hbx.twelve; clear hbx))
    go_ret
    have hR2 := hR.out
    rw [HQ.out] at hR2 ⊢
    rw [hR2]
    exact ⟨rfl, HW.out _ hbw, Spare.of_below hbw⟩
  have HQ : Hid (E = C) := HE.out
  obtain rfl := HQ.out
  clear HE HQ
  go_enter Try.func39, Try.ntmps39
  go_wp2_with (first | (go_at_call 52; refine (HSP.out _).mono ?_; rintro e w1 ⟨rfl, hb1⟩; obtain ⟨hbx, hbw, hlt⟩ := HC.out _ hb1; obtain ⟨⟨b0, b1, b2, b3, b4, b5⟩, b6, b7, b8, b9, b10, b11⟩ := hbx.twelve; clear hbx) | (go_at_call 55; refine (HTH.out _ hbw (by trivial)).mono ?_; rintro e w1 ⟨rfl, hb2⟩; replace hb1 := hb1.trans (hb2.mono hb1.size); clear b0 b1 b2 b3 b4 b5 b6 b7 b8 b9 b10 b11 hlt hbw hb2; obtain ⟨hbx, hbw, hlt⟩ := HC.out _ hb1; obtain ⟨⟨b0, b1, b2, b3, b4, b5⟩, b6, b7, b8, b9, b10, b11⟩ := hbx.twelve; clear hbx))
  have hcr := (HR.out _ hbw).2
  obtain ⟨wo, rfl⟩ : ∃ wo, wo = w1 := ⟨_, rfl⟩
  have HPK2 : Hid (∀ w1, Below wo.heap.size wo w1 → Calls Try.prog 57 #[.slice a m cap, .int .i64 page, .int .i64 (IntKind.i64.wrap (page + count))] w1 fun e w' => ∃ a n c, e = .returned (lstV (.slice a n c) E) ∧ Hid (KP base g k wo (if E = 0 then upd S k P else S) E w' (.slice a n c)) ∧ Spare g wo w') := fun w1 hb => by rw [HQ0.out]; exact HPK.out _ hbw _ hb
  have HSPW : Hid (Spare g w wo) := Spare.of_below hbw
  clear HPK HR HSP HQ0
  refine wp_region_noPanic ?_
  refine wp_region_held_drew (S := (fun w' => w'.cell? ⟨w.heap.size, 2, none⟩ = some (.int .i64 page) ∧ w'.cell? ⟨w.heap.size, 3, none⟩ = some (.int .i64 count) ∧ Spare g wo w')) (by kernel_rfl) (by exact nxs b2 b3 (Nat.ne_of_gt hg) (Spare.of_below (Below.refl _ _).drew)) (fun hHeld => ?_)
  refine take_to 0 (some 12) (v := ?_) rfl rfl (by kernel_rfl) (by kernel_rfl) (by kernel_rfl) (fun _ _ _ h => h) (Or.inl ⟨by rfl, ?_⟩) (by assumption) ?_
  rotate_left
  · intro w hSw
    (try dsimp only at hSw)
    go_simp
    with_reducible rfl
  simp only [Act.put, List.setIfInBounds_toArray, List.set_cons_zero, List.set_cons_succ]
  refine take_to 1 (some 13) (v := ?_) rfl rfl (by kernel_rfl) (by kernel_rfl) (by kernel_rfl) (fun _ _ _ h => h) (Or.inl ⟨by rfl, ?_⟩) (by assumption) ?_
  rotate_left
  · intro w hSw
    (try dsimp only at hSw)
    go_simp
    with_reducible rfl
  simp only [Act.put, List.setIfInBounds_toArray, List.set_cons_zero, List.set_cons_succ]
  refine take_to 2 (some 14) (v := ?_) rfl rfl (by kernel_rfl) (by kernel_rfl) (by kernel_rfl) (fun _ _ _ h => h) (Or.inl ⟨by rfl, ?_⟩) (by assumption) ?_
  rotate_left
  · intro w hSw
    (try dsimp only at hSw)
    go_simp
    with_reducible rfl
  simp only [Act.put, List.setIfInBounds_toArray, List.set_cons_zero, List.set_cons_succ]
  refine take_to 3 (some 15) (v := ?_) rfl rfl (by kernel_rfl) (by kernel_rfl) (by kernel_rfl) (fun _ _ _ h => h) (Or.inl ⟨by rfl, ?_⟩) (by assumption) ?_
  rotate_left
  · intro w hSw
    (try dsimp only at hSw)
    go_simp
    with_reducible rfl
  simp only [Act.put, List.setIfInBounds_toArray, List.set_cons_zero, List.set_cons_succ]
  refine take_to 5 (some 17) (v := ?_) rfl rfl (by kernel_rfl) (by kernel_rfl) (by kernel_rfl) (fun _ _ _ h => h) (Or.inl ⟨by rfl, ?_⟩) (by assumption) ?_
  rotate_left
  · intro w hSw
    (try dsimp only at hSw)
    go_simp
    with_reducible rfl
  simp only [Act.put, List.setIfInBounds_toArray, List.set_cons_zero, List.set_cons_succ]
  refine take_to 6 (some 18) (v := ?_) rfl rfl (by kernel_rfl) (by kernel_rfl) (by kernel_rfl) (fun _ _ _ h => h) (Or.inl ⟨by rfl, ?_⟩) (by assumption) ?_
  rotate_left
  · intro w hSw
    (try dsimp only at hSw)
    go_simp
    with_reducible rfl
  simp only [Act.put, List.setIfInBounds_toArray, List.set_cons_zero, List.set_cons_succ]
  refine take_to 7 (some 19) (v := ?_) rfl rfl (by kernel_rfl) (by kernel_rfl) (by kernel_rfl) (fun _ _ _ h => h) (Or.inl ⟨by rfl, ?_⟩) (by assumption) ?_
  rotate_left
  · intro w hSw
    (try dsimp only at hSw)
    go_simp
    with_reducible rfl
  simp only [Act.put, List.setIfInBounds_toArray, List.set_cons_zero, List.set_cons_succ]
  refine take_to 8 (some 20) (v := ?_) rfl rfl (by kernel_rfl) (by kernel_rfl) (by kernel_rfl) (fun _ _ _ h => h) (Or.inl ⟨by rfl, ?_⟩) (by assumption) ?_
  rotate_left
  · intro w hSw
    (try dsimp only at hSw)
    go_simp
    with_reducible rfl
  simp only [Act.put, List.setIfInBounds_toArray, List.set_cons_zero, List.set_cons_succ]
  refine take_to 9 (some 21) (v := ?_) rfl rfl (by kernel_rfl) (by kernel_rfl) (by kernel_rfl) (fun _ _ _ h => h) (Or.inl ⟨by rfl, ?_⟩) (by assumption) ?_
  rotate_left
  · intro w hSw
    (try dsimp only at hSw)
    go_simp
    with_reducible rfl
  simp only [Act.put, List.setIfInBounds_toArray, List.set_cons_zero, List.set_cons_succ]
  refine take_to 10 (some 22) (v := ?_) rfl rfl (by kernel_rfl) (by kernel_rfl) (by kernel_rfl) (fun _ _ _ h => h) (Or.inl ⟨by rfl, ?_⟩) (by assumption) ?_
  rotate_left
  · intro w hSw
    (try dsimp only at hSw)
    go_simp
    with_reducible rfl
  simp only [Act.put, List.setIfInBounds_toArray, List.set_cons_zero, List.set_cons_succ]
  refine take_to 11 (some 23) (v := ?_) rfl rfl (by kernel_rfl) (by kernel_rfl) (by kernel_rfl) (fun _ _ _ h => h) (Or.inl ⟨by rfl, ?_⟩) (by assumption) ?_
  rotate_left
  · intro w hSw
    (try dsimp only at hSw)
    go_simp
    with_reducible rfl
  simp only [Act.put, List.setIfInBounds_toArray, List.set_cons_zero, List.set_cons_succ]
  refine wpAnyH_ready (rs := [4]) (by kernel_rfl) (by simp) ?_
  refine AllReadyH.cons rfl (fun K hK => ?_) AllReadyH.nil
  go_simp
  refine hK.out _ _ (by exact nxs b2 b3 (Nat.ne_of_gt hg) (Spare.of_below (Below.refl _ _).drew)) (fun hHeld => ?_)
  clear hK K
  try simp only [Act.put, List.setIfInBounds_toArray, List.set_cons_zero, List.set_cons_succ]
  refine wpAnyH_ready (rs := [12]) (by kernel_rfl) (by simp) ?_
  refine AllReadyH.cons rfl (fun K hK => ?_) AllReadyH.nil
  go_simp
  refine Calls.mono (HPK2.out _ (Below.refl _ _).drew) ?_
  rintro e w2 ⟨a2, n2, c2, rfl, HK2, hsp2⟩
  go_wp2_with fail
  refine hK.out _ _ (by exact nxs b2 b3 (Nat.ne_of_gt hg) (hsp2)) (fun hHeld => ?_)
  clear hK K
  try simp only [Act.put, List.setIfInBounds_toArray, List.set_cons_zero, List.set_cons_succ]
  refine take_to 13 (some 25) (v := ?_) rfl rfl (by kernel_rfl) (by kernel_rfl) (by kernel_rfl) (fun _ _ _ h => h) (Or.inl ⟨by rfl, ?_⟩) (by assumption) ?_
  rotate_left
  · intro w hSw
    (try dsimp only at hSw)
    go_simp
    with_reducible rfl
  simp only [Act.put, List.setIfInBounds_toArray, List.set_cons_zero, List.set_cons_succ]
  refine take_to 14 (some 26) (v := ?_) rfl rfl (by kernel_rfl) (by kernel_rfl) (by kernel_rfl) (fun _ _ _ h => h) (Or.inl ⟨by rfl, ?_⟩) (by assumption) ?_
  rotate_left
  · intro w hSw
    (try dsimp only at hSw)
    go_simp
    with_reducible rfl
  simp only [Act.put, List.setIfInBounds_toArray, List.set_cons_zero, List.set_cons_succ]
  refine wpAnyH_ready (rs := [15]) (by kernel_rfl) (by simp) ?_
  refine AllReadyH.cons rfl (fun K hK => ?_) AllReadyH.nil
  go_simp
  refine Calls.mono (HK2.out) ?_
  rintro e w3 ⟨rfl, hw3, hsp3⟩
  have HW3 : Hid _ := hw3
  clear hw3
  go_wp2_with fail
  refine hK.out _ _ (by exact nxs b2 b3 (Nat.ne_of_gt hg) (hsp3)) (fun hHeld => ?_)
  clear hK K
  try simp only [Act.put, List.setIfInBounds_toArray, List.set_cons_zero, List.set_cons_succ]
  refine take_to 16 (some 4) (v := ?_) rfl rfl (by kernel_rfl) (by kernel_rfl) (by kernel_rfl) (fun _ _ _ h => h) (Or.inl ⟨by rfl, ?_⟩) (by assumption) ?_
  rotate_left
  · intro w hSw
    (try dsimp only at hSw)
    go_simp
    with_reducible rfl
  simp only [Act.put, List.setIfInBounds_toArray, List.set_cons_zero, List.set_cons_succ]
  refine wpAnyH_done (by kernel_rfl) ?_ _
  refine NoPanic.normal ?_
  go_wp2
  go_ret
  exact ⟨rfl, hR.out ▸ HW3.out, HSPW.out.trans hsp3⟩

set_option maxHeartbeats 3200000 in
theorem protect14_any (base g : Nat) (S : W4) (k : Nat) (hk : k < 4) (o : O12) (hw : bdI o.count) (w : World) (h : WOK base g w S) (hi : Inv S) :
    Calls Try.prog 38 #[(.pointer (some ⟨g, k * 4362, none⟩)), opV o] w fun e w' => e = .returned (.int .i64 (proE (S k) o)) ∧ WOK base g w' (if proE (S k) o = 0 then upd S k (proP (S k) o) else S) ∧ Spare g w w' := by
  have HW : Hid (∀ w1, Below w.heap.size w w1 → WOK base g w1 S) := fun w1 hb => h.below hb
  have HI : Hid (Inv S) := hi
  obtain ⟨a, cap, h1, h2, -⟩ := h.recs hi hk
  have HR : Hid (∀ w1, Below w.heap.size w w1 → IsRecs encR 64 w1 (.slice a (S k).L.length cap) (S k).L ∧ w1.cell? ⟨g, k * 4362 + 1, none⟩ = some (.slice a (S k).L.length cap)) := fun w1 hb => ⟨h2.below hb, (hb.cell (cell_lt h1)).trans h1⟩
  have hg := h.glt
  have HSP : Hid (∀ w1, Calls Try.prog 52 #[opV o] w1 fun e w' => e = .returned (.bool (isS o)) ∧ Below w1.heap.size w1 w') := fun w1 => isSpan14_any o hw w1
  have HTH : Hid (∀ w1, Below w.heap.size w w1 → isS o = true → Calls Try.prog 55 #[(.pointer (some ⟨g, k * 4362, none⟩)), opV o] w1 fun e w' => e = .returned (.bool (thr (S k) o)) ∧ Below w1.heap.size w1 w') := fun w1 hb hs => isThere_any base g S k hk o hs w1 (HW.out _ hb) HI.out
  have HSE : Hid (∀ w1, Below w.heap.size w w1 → isS o = true → Calls Try.prog 53 #[(.pointer (some ⟨g, k * 4362, none⟩)), opV o] w1 fun e w' => e = .returned (.bool (sld (S k) o)) ∧ Below w1.heap.size w1 w') := fun w1 hb hs => isSealed_any base g S k hk o hs w1 (HW.out _ hb) HI.out
  have HWG : Hid (∀ w1, Below w.heap.size w w1 → Calls Try.prog 47 #[(.pointer (some ⟨g, k * 4362, none⟩)), opV o] w1 fun e w' => e = .returned (.int .i64 (wgE (S k) o)) ∧ Below w1.heap.size w1 w') := fun w1 hb => wrongGuard_any base g S k hk o w1 (HW.out _ hb)
  have HPK : Hid (∀ wo, Below w.heap.size w wo → ∀ w1, Below wo.heap.size wo w1 → Calls Try.prog 56 #[.slice a (S k).L.length cap, .int .i64 o.page, .int .i64 (o.page + o.count), .int .i64 o.rights, .int .i64 o.key] w1 fun e w' => ∃ a n c, e = .returned (lstV (.slice a n c) (chE (S k).L o.page (o.page + o.count))) ∧ Hid (KP base g k wo (if chE (S k).L o.page (o.page + o.count) = 0 then upd S k (proP (S k) o) else S) (chE (S k).L o.page (o.page + o.count)) w' (.slice a n c)) ∧ Spare g wo w') := fun wo hb w1 hb1 => guard_pack hk (HW.out _ hb) (HR.out _ hb).1 o.page (o.page + o.count) o.rights o.key w1 hb1
  have HE : Hid (proE (S k) o = if isS o then if wgE (S k) o = 0 then if thr (S k) o then if sld (S k) o then 7 else chE (S k).L o.page (o.page + o.count) else 1 else wgE (S k) o else 2) := rfl
  have HIS : Hid (isS o = true → IntKind.i64.wrap (o.page + o.count) = o.page + o.count) := fun hs => by
    obtain ⟨q0, q1, q2⟩ := isS_iff.1 hs
    rw [IntKind.wrap_i64]; omega
  clear h h2 hi hw
  generalize chE (S k).L o.page (o.page + o.count) = C at *
  generalize proP (S k) o = P at *
  generalize proE (S k) o = E at *
  obtain ⟨R, hR⟩ : ∃ R, Hid (R = if E = 0 then upd S k P else S) := ⟨_, rfl⟩
  rw [← hR.out]
  generalize isS o = I at *
  generalize thr (S k) o = T at *
  generalize sld (S k) o = D at *
  generalize wgE (S k) o = G at *
  generalize (S k).L.length = m at *
  obtain ⟨kind, proc, page, count, rights, key, tagged, draw, addr, size, value, tag⟩ := o
  simp only at HPK HIS ⊢
  have hbA : Below w.heap.size w (w.alloc (.cells #[.int .i64 kind, .int .i64 proc, .int .i64 page, .int .i64 count, .int .i64 rights, .int .i64 key, .bool tagged, .int .i64 draw, .int .i64 addr, .int .i64 size, .int .i64 value, .int .i64 tag] 24)) := (Below.refl _ _).alloc (Nat.le_refl _) _
  have HC : Hid (∀ w1, Below (w.alloc (.cells #[.int .i64 kind, .int .i64 proc, .int .i64 page, .int .i64 count, .int .i64 rights, .int .i64 key, .bool tagged, .int .i64 draw, .int .i64 addr, .int .i64 size, .int .i64 value, .int .i64 tag] 24)).heap.size (w.alloc (.cells #[.int .i64 kind, .int .i64 proc, .int .i64 page, .int .i64 count, .int .i64 rights, .int .i64 key, .bool tagged, .int .i64 draw, .int .i64 addr, .int .i64 size, .int .i64 value, .int .i64 tag] 24)) w1 → OwnRow w1 w.heap.size 24 [.int .i64 kind, .int .i64 proc, .int .i64 page, .int .i64 count, .int .i64 rights, .int .i64 key, .bool tagged, .int .i64 draw, .int .i64 addr, .int .i64 size, .int .i64 value, .int .i64 tag] ∧ Below w.heap.size w w1 ∧ w.heap.size < w1.heap.size) := fun w1 hb => ⟨box12 hb, hbA.trans (hb.mono hbA.size), (box12 hb).lt⟩
  have HBA : Hid (Below w.heap.size w (w.alloc (.cells #[.int .i64 kind, .int .i64 proc, .int .i64 page, .int .i64 count, .int .i64 rights, .int .i64 key, .bool tagged, .int .i64 draw, .int .i64 addr, .int .i64 size, .int .i64 value, .int .i64 tag] 24))) := hbA
  clear hbA
  cases I
  · have HQ : Hid (E = 2) := HE.out
    clear HE HPK
    go_enter Try.func38, Try.ntmps38
    go_wp2_with (first | (go_at_call 52; refine (HSP.out _).mono ?_; rintro e w1 ⟨rfl, hb1⟩; obtain ⟨hbx, hbw, hlt⟩ := HC.out _ hb1; obtain ⟨⟨b0, b1, b2, b3, b4, b5⟩, b6, b7, b8, b9, b10, b11⟩ := hbx.twelve; clear hbx))
    go_ret
    have hR2 := hR.out
    rw [HQ.out] at hR2 ⊢
    rw [hR2]
    exact ⟨rfl, HW.out _ hbw, Spare.of_below hbw⟩
  have HQ0 : Hid (IntKind.i64.wrap (page + count) = page + count) := HIS.out rfl
  clear HIS
  by_cases hG : G = 0
  case neg =>
    have HQ : Hid (E = G) := HE.out.trans (by simp [hG])
    have hGd : (G != 0) = true := by simpa using hG
    clear HE HPK
    go_enter Try.func38, Try.ntmps38
    go_wp2_with (first | (go_at_call 52; refine (HSP.out _).mono ?_; rintro e w1 ⟨rfl, hb1⟩; obtain ⟨hbx, hbw, hlt⟩ := HC.out _ hb1; obtain ⟨⟨b0, b1, b2, b3, b4, b5⟩, b6, b7, b8, b9, b10, b11⟩ := hbx.twelve; clear hbx) | (go_at_call 47; refine (HWG.out _ hbw).mono ?_; rintro e w1 ⟨rfl, hb2⟩; replace hb1 := hb1.trans (hb2.mono hb1.size); clear b0 b1 b2 b3 b4 b5 b6 b7 b8 b9 b10 b11 hlt hbw hb2; obtain ⟨hbx, hbw, hlt⟩ := HC.out _ hb1; obtain ⟨⟨b0, b1, b2, b3, b4, b5⟩, b6, b7, b8, b9, b10, b11⟩ := hbx.twelve; clear hbx))
    go_ret
    have hR2 := hR.out
    rw [HQ.out, if_neg hG] at hR2
    rw [HQ.out, hR2]
    exact ⟨rfl, HW.out _ hbw, Spare.of_below hbw⟩
  subst hG
  cases T
  case false =>
    have HQ : Hid (E = 1) := HE.out
    clear HE HPK
    go_enter Try.func38, Try.ntmps38
    go_wp2_with (first | (go_at_call 52; refine (HSP.out _).mono ?_; rintro e w1 ⟨rfl, hb1⟩; obtain ⟨hbx, hbw, hlt⟩ := HC.out _ hb1; obtain ⟨⟨b0, b1, b2, b3, b4, b5⟩, b6, b7, b8, b9, b10, b11⟩ := hbx.twelve; clear hbx) | (go_at_call 47; refine (HWG.out _ hbw).mono ?_; rintro e w1 ⟨rfl, hb2⟩; replace hb1 := hb1.trans (hb2.mono hb1.size); clear b0 b1 b2 b3 b4 b5 b6 b7 b8 b9 b10 b11 hlt hbw hb2; obtain ⟨hbx, hbw, hlt⟩ := HC.out _ hb1; obtain ⟨⟨b0, b1, b2, b3, b4, b5⟩, b6, b7, b8, b9, b10, b11⟩ := hbx.twelve; clear hbx) | (go_at_call 55; refine (HTH.out _ hbw (by trivial)).mono ?_; rintro e w1 ⟨rfl, hb2⟩; replace hb1 := hb1.trans (hb2.mono hb1.size); clear b0 b1 b2 b3 b4 b5 b6 b7 b8 b9 b10 b11 hlt hbw hb2; obtain ⟨hbx, hbw, hlt⟩ := HC.out _ hb1; obtain ⟨⟨b0, b1, b2, b3, b4, b5⟩, b6, b7, b8, b9, b10, b11⟩ := hbx.twelve; clear hbx))
    go_ret
    have hR2 := hR.out
    rw [HQ.out] at hR2 ⊢
    rw [hR2]
    exact ⟨rfl, HW.out _ hbw, Spare.of_below hbw⟩
  cases D
  case true =>
    have HQ : Hid (E = 7) := HE.out
    clear HE HPK
    go_enter Try.func38, Try.ntmps38
    go_wp2_with (first | (go_at_call 52; refine (HSP.out _).mono ?_; rintro e w1 ⟨rfl, hb1⟩; obtain ⟨hbx, hbw, hlt⟩ := HC.out _ hb1; obtain ⟨⟨b0, b1, b2, b3, b4, b5⟩, b6, b7, b8, b9, b10, b11⟩ := hbx.twelve; clear hbx) | (go_at_call 47; refine (HWG.out _ hbw).mono ?_; rintro e w1 ⟨rfl, hb2⟩; replace hb1 := hb1.trans (hb2.mono hb1.size); clear b0 b1 b2 b3 b4 b5 b6 b7 b8 b9 b10 b11 hlt hbw hb2; obtain ⟨hbx, hbw, hlt⟩ := HC.out _ hb1; obtain ⟨⟨b0, b1, b2, b3, b4, b5⟩, b6, b7, b8, b9, b10, b11⟩ := hbx.twelve; clear hbx) | (go_at_call 55; refine (HTH.out _ hbw (by trivial)).mono ?_; rintro e w1 ⟨rfl, hb2⟩; replace hb1 := hb1.trans (hb2.mono hb1.size); clear b0 b1 b2 b3 b4 b5 b6 b7 b8 b9 b10 b11 hlt hbw hb2; obtain ⟨hbx, hbw, hlt⟩ := HC.out _ hb1; obtain ⟨⟨b0, b1, b2, b3, b4, b5⟩, b6, b7, b8, b9, b10, b11⟩ := hbx.twelve; clear hbx) | (go_at_call 53; refine (HSE.out _ hbw (by trivial)).mono ?_; rintro e w1 ⟨rfl, hb2⟩; replace hb1 := hb1.trans (hb2.mono hb1.size); clear b0 b1 b2 b3 b4 b5 b6 b7 b8 b9 b10 b11 hlt hbw hb2; obtain ⟨hbx, hbw, hlt⟩ := HC.out _ hb1; obtain ⟨⟨b0, b1, b2, b3, b4, b5⟩, b6, b7, b8, b9, b10, b11⟩ := hbx.twelve; clear hbx))
    go_ret
    have hR2 := hR.out
    rw [HQ.out] at hR2 ⊢
    rw [hR2]
    exact ⟨rfl, HW.out _ hbw, Spare.of_below hbw⟩
  have HQ : Hid (E = C) := HE.out
  obtain rfl := HQ.out
  clear HE HQ
  go_enter Try.func38, Try.ntmps38
  go_wp2_with (first | (go_at_call 52; refine (HSP.out _).mono ?_; rintro e w1 ⟨rfl, hb1⟩; obtain ⟨hbx, hbw, hlt⟩ := HC.out _ hb1; obtain ⟨⟨b0, b1, b2, b3, b4, b5⟩, b6, b7, b8, b9, b10, b11⟩ := hbx.twelve; clear hbx) | (go_at_call 47; refine (HWG.out _ hbw).mono ?_; rintro e w1 ⟨rfl, hb2⟩; replace hb1 := hb1.trans (hb2.mono hb1.size); clear b0 b1 b2 b3 b4 b5 b6 b7 b8 b9 b10 b11 hlt hbw hb2; obtain ⟨hbx, hbw, hlt⟩ := HC.out _ hb1; obtain ⟨⟨b0, b1, b2, b3, b4, b5⟩, b6, b7, b8, b9, b10, b11⟩ := hbx.twelve; clear hbx) | (go_at_call 55; refine (HTH.out _ hbw (by trivial)).mono ?_; rintro e w1 ⟨rfl, hb2⟩; replace hb1 := hb1.trans (hb2.mono hb1.size); clear b0 b1 b2 b3 b4 b5 b6 b7 b8 b9 b10 b11 hlt hbw hb2; obtain ⟨hbx, hbw, hlt⟩ := HC.out _ hb1; obtain ⟨⟨b0, b1, b2, b3, b4, b5⟩, b6, b7, b8, b9, b10, b11⟩ := hbx.twelve; clear hbx) | (go_at_call 53; refine (HSE.out _ hbw (by trivial)).mono ?_; rintro e w1 ⟨rfl, hb2⟩; replace hb1 := hb1.trans (hb2.mono hb1.size); clear b0 b1 b2 b3 b4 b5 b6 b7 b8 b9 b10 b11 hlt hbw hb2; obtain ⟨hbx, hbw, hlt⟩ := HC.out _ hb1; obtain ⟨⟨b0, b1, b2, b3, b4, b5⟩, b6, b7, b8, b9, b10, b11⟩ := hbx.twelve; clear hbx))
  have hcr := (HR.out _ hbw).2
  obtain ⟨wo, rfl⟩ : ∃ wo, wo = w1 := ⟨_, rfl⟩
  have HPK2 : Hid (∀ w1, Below wo.heap.size wo w1 → Calls Try.prog 56 #[.slice a m cap, .int .i64 page, .int .i64 (IntKind.i64.wrap (page + count)), .int .i64 rights, .int .i64 key] w1 fun e w' => ∃ a n c, e = .returned (lstV (.slice a n c) E) ∧ Hid (KP base g k wo (if E = 0 then upd S k P else S) E w' (.slice a n c)) ∧ Spare g wo w') := fun w1 hb => by rw [HQ0.out]; exact HPK.out _ hbw _ hb
  have HSPW : Hid (Spare g w wo) := Spare.of_below hbw
  clear HPK HR HSP HQ0
  refine wp_region_noPanic ?_
  refine wp_region_held_drew (S := (fun w' => w'.cell? ⟨w.heap.size, 2, none⟩ = some (.int .i64 page) ∧ w'.cell? ⟨w.heap.size, 3, none⟩ = some (.int .i64 count) ∧ w'.cell? ⟨w.heap.size, 4, none⟩ = some (.int .i64 rights) ∧ w'.cell? ⟨w.heap.size, 5, none⟩ = some (.int .i64 key) ∧ Spare g wo w')) (by kernel_rfl) (by exact nxs4 b2 b3 b4 b5 (Nat.ne_of_gt hg) (Spare.of_below (Below.refl _ _).drew)) (fun hHeld => ?_)
  refine take_to 0 (some 22) (v := ?_) rfl rfl (by kernel_rfl) (by kernel_rfl) (by kernel_rfl) (fun _ _ _ h => h) (Or.inl ⟨by rfl, ?_⟩) (by assumption) ?_
  rotate_left
  · intro w hSw
    (try dsimp only at hSw)
    go_simp
    with_reducible rfl
  simp only [Act.put, List.setIfInBounds_toArray, List.set_cons_zero, List.set_cons_succ]
  refine take_to 1 (some 23) (v := ?_) rfl rfl (by kernel_rfl) (by kernel_rfl) (by kernel_rfl) (fun _ _ _ h => h) (Or.inl ⟨by rfl, ?_⟩) (by assumption) ?_
  rotate_left
  · intro w hSw
    (try dsimp only at hSw)
    go_simp
    with_reducible rfl
  simp only [Act.put, List.setIfInBounds_toArray, List.set_cons_zero, List.set_cons_succ]
  refine take_to 2 (some 24) (v := ?_) rfl rfl (by kernel_rfl) (by kernel_rfl) (by kernel_rfl) (fun _ _ _ h => h) (Or.inl ⟨by rfl, ?_⟩) (by assumption) ?_
  rotate_left
  · intro w hSw
    (try dsimp only at hSw)
    go_simp
    with_reducible rfl
  simp only [Act.put, List.setIfInBounds_toArray, List.set_cons_zero, List.set_cons_succ]
  refine take_to 3 (some 25) (v := ?_) rfl rfl (by kernel_rfl) (by kernel_rfl) (by kernel_rfl) (fun _ _ _ h => h) (Or.inl ⟨by rfl, ?_⟩) (by assumption) ?_
  rotate_left
  · intro w hSw
    (try dsimp only at hSw)
    go_simp
    with_reducible rfl
  simp only [Act.put, List.setIfInBounds_toArray, List.set_cons_zero, List.set_cons_succ]
  refine take_to 5 (some 27) (v := ?_) rfl rfl (by kernel_rfl) (by kernel_rfl) (by kernel_rfl) (fun _ _ _ h => h) (Or.inl ⟨by rfl, ?_⟩) (by assumption) ?_
  rotate_left
  · intro w hSw
    (try dsimp only at hSw)
    go_simp
    with_reducible rfl
  simp only [Act.put, List.setIfInBounds_toArray, List.set_cons_zero, List.set_cons_succ]
  refine take_to 6 (some 28) (v := ?_) rfl rfl (by kernel_rfl) (by kernel_rfl) (by kernel_rfl) (fun _ _ _ h => h) (Or.inl ⟨by rfl, ?_⟩) (by assumption) ?_
  rotate_left
  · intro w hSw
    (try dsimp only at hSw)
    go_simp
    with_reducible rfl
  simp only [Act.put, List.setIfInBounds_toArray, List.set_cons_zero, List.set_cons_succ]
  refine take_to 7 (some 29) (v := ?_) rfl rfl (by kernel_rfl) (by kernel_rfl) (by kernel_rfl) (fun _ _ _ h => h) (Or.inl ⟨by rfl, ?_⟩) (by assumption) ?_
  rotate_left
  · intro w hSw
    (try dsimp only at hSw)
    go_simp
    with_reducible rfl
  simp only [Act.put, List.setIfInBounds_toArray, List.set_cons_zero, List.set_cons_succ]
  refine take_to 8 (some 30) (v := ?_) rfl rfl (by kernel_rfl) (by kernel_rfl) (by kernel_rfl) (fun _ _ _ h => h) (Or.inl ⟨by rfl, ?_⟩) (by assumption) ?_
  rotate_left
  · intro w hSw
    (try dsimp only at hSw)
    go_simp
    with_reducible rfl
  simp only [Act.put, List.setIfInBounds_toArray, List.set_cons_zero, List.set_cons_succ]
  refine take_to 9 (some 31) (v := ?_) rfl rfl (by kernel_rfl) (by kernel_rfl) (by kernel_rfl) (fun _ _ _ h => h) (Or.inl ⟨by rfl, ?_⟩) (by assumption) ?_
  rotate_left
  · intro w hSw
    (try dsimp only at hSw)
    go_simp
    with_reducible rfl
  simp only [Act.put, List.setIfInBounds_toArray, List.set_cons_zero, List.set_cons_succ]
  refine take_to 10 (some 32) (v := ?_) rfl rfl (by kernel_rfl) (by kernel_rfl) (by kernel_rfl) (fun _ _ _ h => h) (Or.inl ⟨by rfl, ?_⟩) (by assumption) ?_
  rotate_left
  · intro w hSw
    (try dsimp only at hSw)
    go_simp
    with_reducible rfl
  simp only [Act.put, List.setIfInBounds_toArray, List.set_cons_zero, List.set_cons_succ]
  refine take_to 11 (some 33) (v := ?_) rfl rfl (by kernel_rfl) (by kernel_rfl) (by kernel_rfl) (fun _ _ _ h => h) (Or.inl ⟨by rfl, ?_⟩) (by assumption) ?_
  rotate_left
  · intro w hSw
    (try dsimp only at hSw)
    go_simp
    with_reducible rfl
  simp only [Act.put, List.setIfInBounds_toArray, List.set_cons_zero, List.set_cons_succ]
  refine take_to 12 (some 34) (v := ?_) rfl rfl (by kernel_rfl) (by kernel_rfl) (by kernel_rfl) (fun _ _ _ h => h) (Or.inl ⟨by rfl, ?_⟩) (by assumption) ?_
  rotate_left
  · intro w hSw
    (try dsimp only at hSw)
    go_simp
    with_reducible rfl
  simp only [Act.put, List.setIfInBounds_toArray, List.set_cons_zero, List.set_cons_succ]
  refine take_to 13 (some 35) (v := ?_) rfl rfl (by kernel_rfl) (by kernel_rfl) (by kernel_rfl) (fun _ _ _ h => h) (Or.inl ⟨by rfl, ?_⟩) (by assumption) ?_
  rotate_left
  · intro w hSw
    (try dsimp only at hSw)
    go_simp
    with_reducible rfl
  simp only [Act.put, List.setIfInBounds_toArray, List.set_cons_zero, List.set_cons_succ]
  refine take_to 14 (some 36) (v := ?_) rfl rfl (by kernel_rfl) (by kernel_rfl) (by kernel_rfl) (fun _ _ _ h => h) (Or.inl ⟨by rfl, ?_⟩) (by assumption) ?_
  rotate_left
  · intro w hSw
    (try dsimp only at hSw)
    go_simp
    with_reducible rfl
  simp only [Act.put, List.setIfInBounds_toArray, List.set_cons_zero, List.set_cons_succ]
  refine take_to 15 (some 37) (v := ?_) rfl rfl (by kernel_rfl) (by kernel_rfl) (by kernel_rfl) (fun _ _ _ h => h) (Or.inl ⟨by rfl, ?_⟩) (by assumption) ?_
  rotate_left
  · intro w hSw
    (try dsimp only at hSw)
    go_simp
    with_reducible rfl
  simp only [Act.put, List.setIfInBounds_toArray, List.set_cons_zero, List.set_cons_succ]
  refine wpAnyH_ready (rs := [4]) (by kernel_rfl) (by simp) ?_
  refine AllReadyH.cons rfl (fun K hK => ?_) AllReadyH.nil
  go_simp
  refine hK.out _ _ (by exact nxs4 b2 b3 b4 b5 (Nat.ne_of_gt hg) (Spare.of_below (Below.refl _ _).drew)) (fun hHeld => ?_)
  clear hK K
  try simp only [Act.put, List.setIfInBounds_toArray, List.set_cons_zero, List.set_cons_succ]
  refine wpAnyH_ready (rs := [16]) (by kernel_rfl) (by simp) ?_
  refine AllReadyH.cons rfl (fun K hK => ?_) AllReadyH.nil
  go_simp
  refine Calls.mono (HPK2.out _ (Below.refl _ _).drew) ?_
  rintro e w2 ⟨a2, n2, c2, rfl, HK2, hsp2⟩
  go_wp2_with fail
  refine hK.out _ _ (by exact nxs4 b2 b3 b4 b5 (Nat.ne_of_gt hg) (hsp2)) (fun hHeld => ?_)
  clear hK K
  try simp only [Act.put, List.setIfInBounds_toArray, List.set_cons_zero, List.set_cons_succ]
  refine take_to 17 (some 39) (v := ?_) rfl rfl (by kernel_rfl) (by kernel_rfl) (by kernel_rfl) (fun _ _ _ h => h) (Or.inl ⟨by rfl, ?_⟩) (by assumption) ?_
  rotate_left
  · intro w hSw
    (try dsimp only at hSw)
    go_simp
    with_reducible rfl
  simp only [Act.put, List.setIfInBounds_toArray, List.set_cons_zero, List.set_cons_succ]
  refine take_to 18 (some 40) (v := ?_) rfl rfl (by kernel_rfl) (by kernel_rfl) (by kernel_rfl) (fun _ _ _ h => h) (Or.inl ⟨by rfl, ?_⟩) (by assumption) ?_
  rotate_left
  · intro w hSw
    (try dsimp only at hSw)
    go_simp
    with_reducible rfl
  simp only [Act.put, List.setIfInBounds_toArray, List.set_cons_zero, List.set_cons_succ]
  refine wpAnyH_ready (rs := [19]) (by kernel_rfl) (by simp) ?_
  refine AllReadyH.cons rfl (fun K hK => ?_) AllReadyH.nil
  go_simp
  refine Calls.mono (HK2.out) ?_
  rintro e w3 ⟨rfl, hw3, hsp3⟩
  have HW3 : Hid _ := hw3
  clear hw3
  go_wp2_with fail
  refine hK.out _ _ (by exact nxs4 b2 b3 b4 b5 (Nat.ne_of_gt hg) (hsp3)) (fun hHeld => ?_)
  clear hK K
  try simp only [Act.put, List.setIfInBounds_toArray, List.set_cons_zero, List.set_cons_succ]
  refine take_to 20 (some 4) (v := ?_) rfl rfl (by kernel_rfl) (by kernel_rfl) (by kernel_rfl) (fun _ _ _ h => h) (Or.inl ⟨by rfl, ?_⟩) (by assumption) ?_
  rotate_left
  · intro w hSw
    (try dsimp only at hSw)
    go_simp
    with_reducible rfl
  simp only [Act.put, List.setIfInBounds_toArray, List.set_cons_zero, List.set_cons_succ]
  refine wpAnyH_done (by kernel_rfl) ?_ _
  refine NoPanic.normal ?_
  go_wp2
  go_ret
  exact ⟨rfl, hR.out ▸ HW3.out, HSPW.out.trans hsp3⟩

end Go.Proofs.Ytlhmfbkpmfofiai

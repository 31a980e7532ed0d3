/- The contract of flat.world.unmap: pages are cut, and memory is told. -/
import Derived.Test.YtbiipnojhjhejaaFlat6
namespace Go.Proofs.Ytbiipnojhjhejaa
set_option maxRecDepth 100000
open Go.RowKit
set_option linter.unusedSimpArgs false
set_option linter.unusedVariables false

/-- What memory is, behind pages that were cut. -/
def unmS {σ : Type} (M : Mem σ) (S : W4) (s : σ) (k : Nat) (o : O12) : σ := if unmE (S k) o = 0 then M.sCut s k o.page.toNat (o.page + o.count).toNat else s

theorem nx3 {g b B : Nat} {i j : Nat} {wr wo w : World} {u v z : Value} (h : wr.cell? ⟨B, i, none⟩ = some u ∧ wr.cell? ⟨B, j, none⟩ = some v ∧ wr.cell? ⟨g, b, none⟩ = some z) (hb : Below wr.heap.size wr w) : w.cell? ⟨B, i, none⟩ = some u ∧ w.cell? ⟨B, j, none⟩ = some v ∧ w.cell? ⟨g, b, none⟩ = some z :=
  ⟨(hb.cell (cell_lt h.1)).trans h.1, (hb.cell (cell_lt h.2.1)).trans h.2.1, (hb.cell (cell_lt h.2.2)).trans h.2.2⟩

set_option maxHeartbeats 1600000 in
theorem unmap14_any {σ : Type} (M : Mem σ) (base g : Nat) (S : W4) (s : σ) (k : Nat) (hk : k < 4) (hlk : (S k).live = true) (o : O12) (hp : o.proc = k) (hw : bdI o.count) (w : World) (h : WM M base g w S s) (hi : Inv S) :
    Calls Try.prog 47 #[.pointer (some ⟨g, 0, none⟩), .pointer (some ⟨g, k * 10, none⟩), opV o] w fun e w' => e = .returned (.int .i64 (unmE (S k) o)) ∧ WM M base g w' (if unmE (S k) o = 0 then upd S k (unmP (S k) o) else S) (unmS M S s k o) ∧ MKg M g w w' := by
  have HM : Hid (∀ w1, Below w.heap.size w w1 → WM M base g w1 S s) := fun w1 hb => h.below hb
  have HI : Hid (Inv S ∧ (S k).live = true) := ⟨hi, hlk⟩
  obtain ⟨a, cap, h1, h2, -⟩ := h.wok.recs hi hk
  have HR : Hid (∀ w1, Below w.heap.size w w1 → IsRecs encR 64 w1 (.slice a (S k).L.length cap) (S k).L ∧ w1.cell? ⟨g, k * 10 + 1, none⟩ = some (.slice a (S k).L.length cap)) := fun w1 hb => ⟨h2.below hb, (hb.cell (cell_lt h1)).trans h1⟩
  have hg := h.wok.glt
  have HSP : Hid (∀ w1, Calls Try.prog 61 #[opV o] w1 fun e w' => e = .returned (.bool (isS o)) ∧ Below w1.heap.size w1 w') := fun w1 => isSpan14_any o hw w1
  have HSE : Hid (∀ w1, Below w.heap.size w w1 → isS o = true → Calls Try.prog 62 #[(.pointer (some ⟨g, k * 10, none⟩)), opV o] w1 fun e w' => e = .returned (.bool (sld (S k) o)) ∧ Below w1.heap.size w1 w') := fun w1 hb hs => isSealed_any M.mv base g S k hk o hs w1 (HM.out _ hb).wok hi
  have HPK : Hid (∀ wo, Below w.heap.size w wo → ∀ w1, Below wo.heap.size wo w1 → Calls Try.prog 63 #[.slice a (S k).L.length cap, .int .i64 o.page, .int .i64 (o.page + o.count)] w1 fun e w' => ∃ a n c, e = .returned (lstV (.slice a n c) (wrE (S k).L o.page (o.page + o.count))) ∧ Hid (KP M.mv base g k wo (if wrE (S k).L o.page (o.page + o.count) = 0 then upd S k (unmP (S k) o) else S) (wrE (S k).L o.page (o.page + o.count)) w' (.slice a n c)) ∧ Spare g wo w') :=
    fun wo hb w1 hb1 => cut_pack hk (HM.out _ hb).wok (HR.out _ hb).1 _ _ w1 hb1
  have HE : Hid (unmE (S k) o = if isS o then if sld (S k) o then 7 else wrE (S k).L o.page (o.page + o.count) else 2) := rfl
  have HS : Hid (unmS M S s k o = if unmE (S k) o = 0 then M.sCut s k o.page.toNat (o.page + o.count).toNat else s) := rfl
  have HIS : Hid (isS o = true → wrap64 (o.page + o.count) = o.page + o.count ∧ 0 ≤ o.page ∧ 1 ≤ o.count ∧ o.page + o.count ≤ 64) := fun hs => by
    obtain ⟨q0, q1, q2⟩ := isS_iff.1 hs
    exact ⟨by unfold wrap64; omega, q0, q1, q2⟩
  have HV : Hid (unmE (S k) o = 0 → vw (upd S k (unmP (S k) o)) = (vw S).cut k o.page.toNat (o.page + o.count).toNat) := fun h0 => by
    obtain ⟨u1, u2, u3⟩ := unmE_ok h0
    obtain ⟨q0, q1, q2⟩ := isS_iff.1 u1
    refine vw_cut S hk (fun q => ?_)
    rw [(cut_pages u3).2.2.2, show ((o.page.toNat : Nat) : Int) = o.page by omega, show (((o.page + o.count).toNat : Nat) : Int) = o.page + o.count by omega]
  clear h h2 hi hw hlk
  generalize wrE (S k).L o.page (o.page + o.count) = C at *
  generalize unmP (S k) o = P at *
  generalize unmE (S k) o = E at *
  generalize unmS M S s k o = Z at *
  obtain ⟨R, hR⟩ : ∃ R, Hid (R = if E = 0 then upd S k P else S) := ⟨_, rfl⟩
  rw [← hR.out]
  generalize isS o = I at *
  generalize sld (S k) o = D at *
  generalize (S k).L.length = m at *
  obtain ⟨kind, proc, page, count, rights, key, tagged, draw, addr, size, value, tag⟩ := o
  simp only at HPK HIS HS HV hp ⊢
  subst hp
  have hbA : Below w.heap.size w (w.alloc (.cells #[.int .i64 kind, .int .i64 (k : Int), .int .i64 page, .int .i64 count, .int .i64 rights, .int .i64 key, .bool tagged, .int .i64 draw, .int .i64 addr, .int .i64 size, .int .i64 value, .int .i64 tag] 24)) := (Below.refl _ _).alloc (Nat.le_refl _) _
  have HC : Hid (∀ w1, Below (w.alloc (.cells #[.int .i64 kind, .int .i64 (k : Int), .int .i64 page, .int .i64 count, .int .i64 rights, .int .i64 key, .bool tagged, .int .i64 draw, .int .i64 addr, .int .i64 size, .int .i64 value, .int .i64 tag] 24)).heap.size (w.alloc (.cells #[.int .i64 kind, .int .i64 (k : Int), .int .i64 page, .int .i64 count, .int .i64 rights, .int .i64 key, .bool tagged, .int .i64 draw, .int .i64 addr, .int .i64 size, .int .i64 value, .int .i64 tag] 24)) w1 → OwnRow w1 w.heap.size 24 [.int .i64 kind, .int .i64 (k : Int), .int .i64 page, .int .i64 count, .int .i64 rights, .int .i64 key, .bool tagged, .int .i64 draw, .int .i64 addr, .int .i64 size, .int .i64 value, .int .i64 tag] ∧ Below w.heap.size w w1 ∧ w.heap.size < w1.heap.size) := fun w1 hb => ⟨box12 hb, hbA.trans (hb.mono hbA.size), (box12 hb).lt⟩
  have HBA : Hid (Below w.heap.size w (w.alloc (.cells #[.int .i64 kind, .int .i64 (k : Int), .int .i64 page, .int .i64 count, .int .i64 rights, .int .i64 key, .bool tagged, .int .i64 draw, .int .i64 addr, .int .i64 size, .int .i64 value, .int .i64 tag] 24))) := hbA
  clear hbA
  cases I
  · have HQ : Hid (E = 2) := HE.out
    clear HE HPK
    go_enter Try.func47, Try.ntmps47
    go_wp2_with (first | (go_at_call 61; refine (HSP.out _).mono ?_; rintro e w1 ⟨rfl, hb1⟩; obtain ⟨hbx, hbw, hlt⟩ := HC.out _ hb1; obtain ⟨⟨b0, b1, b2, b3, b4, b5⟩, b6, b7, b8, b9, b10, b11⟩ := hbx.twelve; clear hbx) | (go_at_call 62; refine (HSE.out _ hbw (by trivial)).mono ?_; rintro e w1 ⟨rfl, hb2⟩; replace hb1 := hb1.trans (hb2.mono hb1.size); clear b0 b1 b2 b3 b4 b5 b6 b7 b8 b9 b10 b11 hlt hbw hb2; obtain ⟨hbx, hbw, hlt⟩ := HC.out _ hb1; obtain ⟨⟨b0, b1, b2, b3, b4, b5⟩, b6, b7, b8, b9, b10, b11⟩ := hbx.twelve; clear hbx))
    go_ret
    have hR2 := hR.out
    have hZ2 := HS.out
    rw [HQ.out] at hR2 hZ2 ⊢
    rw [hR2, hZ2]
    exact ⟨rfl, HM.out _ hbw, MKg.of_below hbw⟩
  have HQ0 : Hid (wrap64 (page + count) = page + count ∧ 0 ≤ page ∧ 1 ≤ count ∧ page + count ≤ 64) := HIS.out (by first | rfl | trivial)
  clear HIS
  cases D
  case true =>
    have HQ : Hid (E = 7) := HE.out
    clear HE HPK
    go_enter Try.func47, Try.ntmps47
    go_wp2_with (first | (go_at_call 61; refine (HSP.out _).mono ?_; rintro e w1 ⟨rfl, hb1⟩; obtain ⟨hbx, hbw, hlt⟩ := HC.out _ hb1; obtain ⟨⟨b0, b1, b2, b3, b4, b5⟩, b6, b7, b8, b9, b10, b11⟩ := hbx.twelve; clear hbx) | (go_at_call 62; refine (HSE.out _ hbw (by trivial)).mono ?_; rintro e w1 ⟨rfl, hb2⟩; replace hb1 := hb1.trans (hb2.mono hb1.size); clear b0 b1 b2 b3 b4 b5 b6 b7 b8 b9 b10 b11 hlt hbw hb2; obtain ⟨hbx, hbw, hlt⟩ := HC.out _ hb1; obtain ⟨⟨b0, b1, b2, b3, b4, b5⟩, b6, b7, b8, b9, b10, b11⟩ := hbx.twelve; clear hbx))
    go_ret
    have hR2 := hR.out
    have hZ2 := HS.out
    rw [HQ.out] at hR2 hZ2 ⊢
    rw [hR2, hZ2]
    exact ⟨rfl, HM.out _ hbw, MKg.of_below hbw⟩
  have HQ : Hid (E = C) := HE.out
  obtain rfl := HQ.out
  clear HE HQ
  have hwr := HQ0.out.1
  go_enter Try.func47, Try.ntmps47
  go_wp2_with (first | (go_at_call 61; refine (HSP.out _).mono ?_; rintro e w1 ⟨rfl, hb1⟩; obtain ⟨hbx, hbw, hlt⟩ := HC.out _ hb1; obtain ⟨⟨b0, b1, b2, b3, b4, b5⟩, b6, b7, b8, b9, b10, b11⟩ := hbx.twelve; clear hbx) | (go_at_call 62; refine (HSE.out _ hbw (by trivial)).mono ?_; rintro e w1 ⟨rfl, hb2⟩; replace hb1 := hb1.trans (hb2.mono hb1.size); clear b0 b1 b2 b3 b4 b5 b6 b7 b8 b9 b10 b11 hlt hbw hb2; obtain ⟨hbx, hbw, hlt⟩ := HC.out _ hb1; obtain ⟨⟨b0, b1, b2, b3, b4, b5⟩, b6, b7, b8, b9, b10, b11⟩ := hbx.twelve; clear hbx))
  clear hwr
  have hcr := (HR.out _ hbw).2
  obtain ⟨wo, rfl⟩ : ∃ wo, wo = w1 := ⟨_, rfl⟩
  have HPK2 : Hid (∀ w1, Below wo.heap.size wo w1 → Calls Try.prog 63 #[.slice a m cap, .int .i64 page, .int .i64 (wrap64 (page + count))] w1 fun e w' => ∃ a n c, e = .returned (lstV (.slice a n c) E) ∧ Hid (KP M.mv base g k wo (if E = 0 then upd S k P else S) E w' (.slice a n c)) ∧ Spare g wo w') := fun w1 hb => by rw [HQ0.out.1]; exact HPK.out _ hbw _ hb
  have HSPW : Hid (Spare g w wo ∧ WM M base g wo S s) := ⟨Spare.of_below hbw, HM.out _ hbw⟩
  clear HPK HR HSP
  refine wp_region_noPanic ?_
  refine wp_region_held_drew (S := (fun w' => w'.cell? ⟨w.heap.size, 2, none⟩ = some (.int .i64 page) ∧ w'.cell? ⟨w.heap.size, 1, none⟩ = some (.int .i64 (k : Int)) ∧ Spare g wo w')) (by kernel_rfl) (by exact nxs b2 b1 (Nat.ne_of_gt hg) (Spare.of_below (Below.refl _ _).drew)) (fun hHeld => ?_)
  refine take_to 0 (some 20) (v := ?_) rfl rfl (by kernel_rfl) (by kernel_rfl) (by kernel_rfl) (fun _ _ _ h => h) (Or.inl ⟨by rfl, ?_⟩) (by assumption) ?_
  rotate_left
  · intro w hSw
    (try dsimp only at hSw)
    go_simp
    with_reducible rfl
  simp only [Act.put, List.setIfInBounds_toArray, List.set_cons_zero, List.set_cons_succ]
  refine take_to 1 (some 21) (v := ?_) rfl rfl (by kernel_rfl) (by kernel_rfl) (by kernel_rfl) (fun _ _ _ h => h) (Or.inl ⟨by rfl, ?_⟩) (by assumption) ?_
  rotate_left
  · intro w hSw
    (try dsimp only at hSw)
    go_simp
    with_reducible rfl
  simp only [Act.put, List.setIfInBounds_toArray, List.set_cons_zero, List.set_cons_succ]
  refine take_to 2 (some 22) (v := ?_) rfl rfl (by kernel_rfl) (by kernel_rfl) (by kernel_rfl) (fun _ _ _ h => h) (Or.inl ⟨by rfl, ?_⟩) (by assumption) ?_
  rotate_left
  · intro w hSw
    (try dsimp only at hSw)
    go_simp
    with_reducible rfl
  simp only [Act.put, List.setIfInBounds_toArray, List.set_cons_zero, List.set_cons_succ]
  refine take_to 3 (some 23) (v := ?_) rfl rfl (by kernel_rfl) (by kernel_rfl) (by kernel_rfl) (fun _ _ _ h => h) (Or.inl ⟨by rfl, ?_⟩) (by assumption) ?_
  rotate_left
  · intro w hSw
    (try dsimp only at hSw)
    go_simp
    with_reducible rfl
  simp only [Act.put, List.setIfInBounds_toArray, List.set_cons_zero, List.set_cons_succ]
  refine take_to 5 (some 25) (v := ?_) rfl rfl (by kernel_rfl) (by kernel_rfl) (by kernel_rfl) (fun _ _ _ h => h) (Or.inl ⟨by rfl, ?_⟩) (by assumption) ?_
  rotate_left
  · intro w hSw
    (try dsimp only at hSw)
    go_simp
    with_reducible rfl
  simp only [Act.put, List.setIfInBounds_toArray, List.set_cons_zero, List.set_cons_succ]
  refine take_to 6 (some 26) (v := ?_) rfl rfl (by kernel_rfl) (by kernel_rfl) (by kernel_rfl) (fun _ _ _ h => h) (Or.inl ⟨by rfl, ?_⟩) (by assumption) ?_
  rotate_left
  · intro w hSw
    (try dsimp only at hSw)
    go_simp
    with_reducible rfl
  simp only [Act.put, List.setIfInBounds_toArray, List.set_cons_zero, List.set_cons_succ]
  refine take_to 7 (some 27) (v := ?_) rfl rfl (by kernel_rfl) (by kernel_rfl) (by kernel_rfl) (fun _ _ _ h => h) (Or.inl ⟨by rfl, ?_⟩) (by assumption) ?_
  rotate_left
  · intro w hSw
    (try dsimp only at hSw)
    go_simp
    with_reducible rfl
  simp only [Act.put, List.setIfInBounds_toArray, List.set_cons_zero, List.set_cons_succ]
  refine wpAnyH_ready (rs := [4]) (by kernel_rfl) (by simp) ?_
  refine AllReadyH.cons rfl (fun K hK => ?_) AllReadyH.nil
  go_simp
  refine hK.out _ _ (by exact nxs b2 b1 (Nat.ne_of_gt hg) (Spare.of_below (Below.refl _ _).drew)) (fun hHeld => ?_)
  clear hK K
  try simp only [Act.put, List.setIfInBounds_toArray, List.set_cons_zero, List.set_cons_succ]
  refine wpAnyH_ready (rs := [8]) (by kernel_rfl) (by simp) ?_
  refine AllReadyH.cons rfl (fun K hK => ?_) AllReadyH.nil
  go_simp
  refine Calls.mono (HPK2.out _ (Below.refl _ _).drew) ?_
  rintro e w2 ⟨a2, n2, c2, rfl, HK2, hsp2⟩
  go_wp2_with fail
  refine hK.out _ _ (by exact nxs b2 b1 (Nat.ne_of_gt hg) (hsp2)) (fun hHeld => ?_)
  clear hK K
  try simp only [Act.put, List.setIfInBounds_toArray, List.set_cons_zero, List.set_cons_succ]
  refine take_to 9 (some 29) (v := ?_) rfl rfl (by kernel_rfl) (by kernel_rfl) (by kernel_rfl) (fun _ _ _ h => h) (Or.inl ⟨by rfl, ?_⟩) (by assumption) ?_
  rotate_left
  · intro w hSw
    (try dsimp only at hSw)
    go_simp
    with_reducible rfl
  simp only [Act.put, List.setIfInBounds_toArray, List.set_cons_zero, List.set_cons_succ]
  refine take_to 10 (some 30) (v := ?_) rfl rfl (by kernel_rfl) (by kernel_rfl) (by kernel_rfl) (fun _ _ _ h => h) (Or.inl ⟨by rfl, ?_⟩) (by assumption) ?_
  rotate_left
  · intro w hSw
    (try dsimp only at hSw)
    go_simp
    with_reducible rfl
  simp only [Act.put, List.setIfInBounds_toArray, List.set_cons_zero, List.set_cons_succ]
  refine wpAnyH_ready (rs := [11]) (by kernel_rfl) (by simp) ?_
  refine AllReadyH.cons rfl (fun K hK => ?_) AllReadyH.nil
  go_simp
  refine Calls.mono (HK2.out) ?_
  rintro e w3 ⟨rfl, hw3, hsp3⟩
  have HW3 : Hid _ := hw3
  clear hw3
  go_wp2_with fail
  refine hK.out _ _ (by exact nxs b2 b1 (Nat.ne_of_gt hg) (hsp3)) (fun hHeld => ?_)
  clear hK K
  try simp only [Act.put, List.setIfInBounds_toArray, List.set_cons_zero, List.set_cons_succ]
  refine take_to 12 (some 8) (v := ?_) rfl rfl (by kernel_rfl) (by kernel_rfl) (by kernel_rfl) (fun _ _ _ h => h) (Or.inl ⟨by rfl, ?_⟩) (by assumption) ?_
  rotate_left
  · intro w hSw
    (try dsimp only at hSw)
    go_simp
    with_reducible rfl
  simp only [Act.put, List.setIfInBounds_toArray, List.set_cons_zero, List.set_cons_succ]
  refine wpAnyH_done (by kernel_rfl) ?_ _
  refine NoPanic.normal ?_
  by_cases hE : E = 0
  case neg =>
    have hd : (E != 0) = true := by simpa using hE
    go_wp2
    go_ret
    have hR2 := hR.out
    have hZ2 := HS.out
    have hW2 := HW3.out
    rw [if_neg hE] at hR2 hZ2 hW2
    rw [hR2, hZ2]
    obtain ⟨-, -, xs, hrow, -⟩ := HSPW.out.2.wok
    exact ⟨rfl, ⟨hW2, M.spare HSPW.out.2.ok hsp3 hrow M.hdep.1, HSPW.out.2.rel⟩, MKg.of_spare (HSPW.out.1.trans hsp3)⟩
  subst hE
  obtain rfl := hR.out.trans (if_pos rfl)
  obtain rfl := HS.out.trans (if_pos rfl)
  have HW4 : Hid (WOK M.mv base g w3 (upd S k P)) := HW3.out
  have HOK : Hid (M.ok w3 s) := by
    obtain ⟨-, -, xs, hrow, -⟩ := HSPW.out.2.wok
    exact M.spare HSPW.out.2.ok hsp3 hrow M.hdep.1
  have hcm : w3.cell? ⟨g, 40, none⟩ = some (.iface M.mty (.pointer (some M.pm))) := HW4.out.mem
  have hQ := HQ0.out
  have HMM : Hid (∀ w4, Below w3.heap.size w3 w4 → M.R (M.sCut s k page.toNat (page + count).toNat) (vw (upd S k P)) ∧ Calls Try.prog M.fCut #[.pointer (some M.pm), .int .i64 k, .int .i64 page, .int .i64 (wrap64 (page + count))] w4 fun e w' => (∃ v, e = .returned v) ∧ M.ok w' (M.sCut s k page.toNat (page + count).toNat) ∧ MK M.lo M.wr w4 w') := fun w4 hb => by
    rw [HV.out rfl]
    have := M.cut (f := page.toNat) (t := (page + count).toNat) (M.below HOK.out hb) HSPW.out.2.rel (vw_good HI.out.1) hk (by simp [vw, hk, HI.out.2]) (by omega) (by omega)
    rw [show ((page.toNat : Nat) : Int) = page by omega, show (((page + count).toNat : Nat) : Int) = page + count by omega] at this
    rw [HQ0.out.1]
    exact this
  clear hQ
  obtain ⟨c2, c1, -⟩ := hHeld
  have HRW : Hid (OwnRow w3 w.heap.size 24 [.int .i64 kind, .int .i64 (k : Int), .int .i64 page, .int .i64 count, .int .i64 rights, .int .i64 key, .bool tagged, .int .i64 draw, .int .i64 addr, .int .i64 size, .int .i64 value, .int .i64 tag]) := hsp3.row (HC.out _ hb1).1 (Nat.ne_of_gt hg)
  have hm := fun w => (M.hm w).1
  have hcf := fun args w => (M.hf args w).1
  go_wp2_with fail
  refine wp_region_noPanic ?_
  refine wp_region_held_drew (S := (fun w' => w'.cell? ⟨w.heap.size, 2, none⟩ = some (.int .i64 page) ∧ w'.cell? ⟨w.heap.size, 1, none⟩ = some (.int .i64 (k : Int)) ∧ w'.cell? ⟨g, 40, none⟩ = some (.iface M.mty (.pointer (some M.pm))))) (by kernel_rfl) (by exact nx3 (wo := w) ⟨c2, c1, hcm⟩ (Below.refl _ _).drew) (fun hHeld => ?_)
  refine take_to 0 (some 35) (v := ?_) rfl rfl (by kernel_rfl) (by kernel_rfl) (by kernel_rfl) (fun _ _ _ h => h) (Or.inl ⟨by rfl, ?_⟩) (by assumption) ?_
  rotate_left
  · intro w hSw
    (try dsimp only at hSw)
    go_simp
    with_reducible rfl
  simp only [Act.put, List.setIfInBounds_toArray, List.set_cons_zero, List.set_cons_succ]
  refine take_to 1 (some 36) (v := ?_) rfl rfl (by kernel_rfl) (by kernel_rfl) (by kernel_rfl) (fun _ _ _ h => h) (Or.inl ⟨by rfl, ?_⟩) (by assumption) ?_
  rotate_left
  · intro w hSw
    (try dsimp only at hSw)
    go_simp
    with_reducible rfl
  simp only [Act.put, List.setIfInBounds_toArray, List.set_cons_zero, List.set_cons_succ]
  refine take_to 2 (some 37) (v := ?_) rfl rfl (by kernel_rfl) (by kernel_rfl) (by kernel_rfl) (fun _ _ _ h => h) (Or.inl ⟨by rfl, ?_⟩) (by assumption) ?_
  rotate_left
  · intro w hSw
    (try dsimp only at hSw)
    go_simp
    with_reducible rfl
  simp only [Act.put, List.setIfInBounds_toArray, List.set_cons_zero, List.set_cons_succ]
  refine take_to 3 (some 38) (v := ?_) rfl rfl (by kernel_rfl) (by kernel_rfl) (by kernel_rfl) (fun _ _ _ h => h) (Or.inl ⟨by rfl, ?_⟩) (by assumption) ?_
  rotate_left
  · intro w hSw
    (try dsimp only at hSw)
    go_simp
    with_reducible rfl
  simp only [Act.put, List.setIfInBounds_toArray, List.set_cons_zero, List.set_cons_succ]
  refine take_to 4 (some 39) (v := ?_) rfl rfl (by kernel_rfl) (by kernel_rfl) (by kernel_rfl) (fun _ _ _ h => h) (Or.inl ⟨by rfl, ?_⟩) (by assumption) ?_
  rotate_left
  · intro w hSw
    (try dsimp only at hSw)
    go_simp
    with_reducible rfl
  simp only [Act.put, List.setIfInBounds_toArray, List.set_cons_zero, List.set_cons_succ]
  refine take_to 5 (some 40) (v := ?_) rfl rfl (by kernel_rfl) (by kernel_rfl) (by kernel_rfl) (fun _ _ _ h => h) (Or.inl ⟨by rfl, ?_⟩) (by assumption) ?_
  rotate_left
  · intro w hSw
    (try dsimp only at hSw)
    go_simp
    with_reducible rfl
  simp only [Act.put, List.setIfInBounds_toArray, List.set_cons_zero, List.set_cons_succ]
  refine take_to 6 (some 41) (v := ?_) rfl rfl (by kernel_rfl) (by kernel_rfl) (by kernel_rfl) (fun _ _ _ h => h) (Or.inl ⟨by rfl, ?_⟩) (by assumption) ?_
  rotate_left
  · intro w hSw
    (try dsimp only at hSw)
    go_simp
    with_reducible rfl
  simp only [Act.put, List.setIfInBounds_toArray, List.set_cons_zero, List.set_cons_succ]
  refine take_to 7 (some 42) (v := ?_) rfl rfl (by kernel_rfl) (by kernel_rfl) (by kernel_rfl) (fun _ _ _ h => h) (Or.inl ⟨by rfl, ?_⟩) (by assumption) ?_
  rotate_left
  · intro w hSw
    (try dsimp only at hSw)
    go_simp
    with_reducible rfl
  simp only [Act.put, List.setIfInBounds_toArray, List.set_cons_zero, List.set_cons_succ]
  refine take_to 8 (some 43) (v := ?_) rfl rfl (by kernel_rfl) (by kernel_rfl) (by kernel_rfl) (fun _ _ _ h => h) (Or.inl ⟨by rfl, ?_⟩) (by assumption) ?_
  rotate_left
  · intro w hSw
    (try dsimp only at hSw)
    go_simp
    with_reducible rfl
  simp only [Act.put, List.setIfInBounds_toArray, List.set_cons_zero, List.set_cons_succ]
  refine wpAnyH_ready (rs := [9]) (by kernel_rfl) (by simp) ?_
  refine AllReadyH.cons rfl (fun K hK => ?_) AllReadyH.nil
  go_simp
  refine Calls.mono (HMM.out _ (Below.refl _ _).drew).2 ?_
  rintro e w4 ⟨⟨v, rfl⟩, hok, hmk⟩
  have HX : Hid (WM M base g w4 (upd S k P) (M.sCut s k page.toNat (page + count).toNat) ∧ MKg M g w w4) := ⟨⟨(HW4.out.below (Below.refl _ _).drew).byMK hmk M.hwr.1 M.hwr.2.1, hok, (HMM.out _ (Below.refl _ _)).1⟩, (MKg.of_spare ((HSPW.out.1.trans hsp3).below (Below.refl _ _).drew)).trans (MKg.of_mk hmk)⟩
  have hr4 := hmk.row (OwnRow.below HRW.out (Below.refl _ _).drew (OwnRow.lt HRW.out)) M.hwr.2.2.1
  go_wp2_with fail
  refine hK.out _ _ (by exact ⟨by rw [hr4.cell]; rfl, by rw [hr4.cell]; rfl, HX.out.1.wok.mem⟩) (fun hHeld => ?_)
  clear hK K
  try simp only [Act.put, List.setIfInBounds_toArray, List.set_cons_zero, List.set_cons_succ]
  refine wpAnyH_done (by kernel_rfl) ?_ _
  refine NoPanic.normal ?_
  go_wp2
  go_ret
  exact ⟨rfl, HX.out⟩

end Go.Proofs.Ytbiipnojhjhejaa

/- The contract of flat.world.mapNew: pages where place says, their bytes and tags zero. -/
import Derived.Test.YtbiipnojhjhejaaFlat6
namespace Go.Proofs.Ytbiipnojhjhejaa
set_option maxRecDepth 100000
open Go.RowKit
set_option linter.unusedSimpArgs false
set_option linter.unusedVariables false

theorem zeroCells_one (v : Value) (n : Nat) : (Builtin.zeroCells #[v] n).toList = List.replicate n v := by
  unfold Builtin.zeroCells
  apply List.ext_getElem?
  intro i
  by_cases hi : i < n
  · simp [hi, Nat.mod_one]
  · simp [hi]

theorem slice_bytes (w : World) (g o l n : Nat) (hn : 0 < n) (hh : l + n ≤ 4096) (L H : Int) (hL : L = l) (hH : H = (l + n : Nat)) :
    (Instr.sliceAt 66 (.pointer (some ⟨g, o, none⟩)) (some (.int .i64 L)) (some (.int .i64 H)) none).run Try.prog w = .ok (.slice (some ⟨g, o + l, none⟩) n (4096 - l)) w := by
  have ht : Try.prog.underlying 66 = some (.array (Try.prog.arrayLen 66) (Try.prog.elem 66)) := by kernel_rfl
  have hn2 : Try.prog.arrayLen 66 = 4096 := by kernel_rfl
  have he : Try.prog.elem 66 = 5 := by kernel_rfl
  rw [run_sliceAt_array_lh w 66 ⟨g, o, none⟩ ht .i64 .i64 L H (by omega) (by omega) (by rw [hn2]; omega), he, Try.sizeOf5, hn2]
  simp only [Result.andThen_ok, slicedAt]
  subst hL hH
  rw [Int.toNat_natCast, Int.toNat_natCast, if_neg (by omega), add_none, Nat.mul_one, Nat.add_sub_cancel_left]

theorem slice_tags (w : World) (g o l n : Nat) (hn : 0 < n) (hh : l + n ≤ 256) (L H : Int) (hL : L = l) (hH : H = (l + n : Nat)) :
    (Instr.sliceAt 67 (.pointer (some ⟨g, o, none⟩)) (some (.int .i64 L)) (some (.int .i64 H)) none).run Try.prog w = .ok (.slice (some ⟨g, o + l, none⟩) n (256 - l)) w := by
  have ht : Try.prog.underlying 67 = some (.array (Try.prog.arrayLen 67) (Try.prog.elem 67)) := by kernel_rfl
  have hn2 : Try.prog.arrayLen 67 = 256 := by kernel_rfl
  have he : Try.prog.elem 67 = 3 := by kernel_rfl
  rw [run_sliceAt_array_lh w 67 ⟨g, o, none⟩ ht .i64 .i64 L H (by omega) (by omega) (by rw [hn2]; omega), he, Try.sizeOf3, hn2]
  simp only [Result.andThen_ok, slicedAt]
  subst hL hH
  rw [Int.toNat_natCast, Int.toNat_natCast, if_neg (by omega), add_none, Nat.mul_one, Nat.add_sub_cancel_left]

/-- Bytes and tags are not among processes' own cells. -/
theorem WOK.alike {mv : Value} {base g : Nat} {w : World} {S S' : W4} (h : WOK mv base g w S) (he : ∀ k, (S' k).live = (S k).live ∧ (S' k).L = (S k).L ∧ (S' k).K = (S k).K) : WOK mv base g w S' := by
  obtain ⟨h1, h2, xs, h3, h4, h40, h5⟩ := h
  refine ⟨h1, h2, xs, h3, h4, h40, fun k hk => ?_⟩
  obtain ⟨v, hv, ho⟩ := h5 k hk
  obtain ⟨e1, e2, e3⟩ := he k
  exact ⟨v, ⟨by rw [e1]; exact hv.live, hv.regs, fun i hi => by rw [e3]; exact hv.keys i hi⟩, by rw [e2]; exact ho⟩

theorem add_pack {mv : Value} {base g : Nat} {S : W4} {k : Nat} (hk : k < 4) {wo : World} (h : WOK mv base g wo S) {v : Value} {l : List R6} (hv : IsRecs encR 64 wo v l) (f t r y : Int) (q s : Bool) (w1 : World) (hb : Below wo.heap.size wo w1) (hE : addE l (f, t, r, y, q, s) = 0) :
    Calls Try.prog 60 #[v, .agg #[.int .i64 f, .int .i64 t, .int .i64 r, .int .i64 y, .bool q, .bool s]] w1 fun e w' => ∃ a n c, e = .returned (lstV (.slice a n c) 0) ∧ Hid (KP mv base g k wo (upd S k { S k with L := addL l (f, t, r, y, q, s) }) 0 w' (.slice a n c)) ∧ Spare g wo w' := by
  refine (add_any v l f t r y q s 64 w1 (hv.below hb) (by decide)).mono ?_
  rintro e w2 ⟨v2, rfl, ho, hb2⟩
  have h2 := h.below (hb.trans (hb2.mono hb.size))
  have ho2 : OwnR 50 6 encR base w2 v2 (addL l (f, t, r, y, q, s)) := ho.mono (Nat.le_trans h.le hb.size)
  obtain ⟨a, c, rfl⟩ := ho.form
  rw [hE]
  exact ⟨a, _, c, rfl, (by have := kp_of (E := 0) hk h2 ho2 (spare_of hb hb2); rw [if_pos rfl] at this; exact this), spare_of hb hb2⟩

/-- Cells that stay. -/
theorem nx3b {wr b : World} {A B C : Addr} {u v x : Value} (h1 : wr.cell? A = some u) (h2 : wr.cell? B = some v) (h3 : wr.cell? C = some x) (h : Below wr.heap.size wr b) : b.cell? A = some u ∧ b.cell? B = some v ∧ b.cell? C = some x ∧ Below wr.heap.size wr b :=
  ⟨(h.cell (cell_lt h1)).trans h1, (h.cell (cell_lt h2)).trans h2, (h.cell (cell_lt h3)).trans h3, h⟩

theorem nxs4b {g : Nat} {wr b : World} {B : Nat} {u v u' v' : Value} (h : OwnRow wr B 48 [u, v, u', v']) (hne : B ≠ g) (hs : Spare g wr b) :
    b.cell? ⟨B, 0, none⟩ = some u ∧ b.cell? ⟨B, 1, none⟩ = some v ∧ b.cell? ⟨B, 2, none⟩ = some u' ∧ b.cell? ⟨B, 3, none⟩ = some v' ∧ Spare g wr b := by
  have ho := hs.row h hne
  exact ⟨by rw [ho.cell]; rfl, by rw [ho.cell]; rfl, by rw [ho.cell]; rfl, by rw [ho.cell]; rfl, hs⟩

set_option maxHeartbeats 3200000 in
theorem mapNew_any (mv : Value) (base g : Nat) (S : W4) (k : Nat) (hk : k < 4) (o : O12) (hw : bdI o.count) (w : World) (h : WOK mv base g w S) (hi : Inv S) :
    Calls Try.prog 46 #[.pointer (some ⟨g, 0, none⟩), .pointer (some ⟨g, k * 10, none⟩), opV o] w fun e w' => e = .returned (.tuple #[.int .i64 (if mapE S (S k) o = 0 then mapF (S k) o else 0), .int .i64 (mapE S (S k) o)]) ∧ WOK mv base g w' (if mapE S (S k) o = 0 then upd S k (mapP (S k) o) else S) ∧ Spare g w w' := by
  have HW : Hid (∀ w1, Below w.heap.size w w1 → WOK mv base g w1 S) := fun w1 hb => h.below hb
  obtain ⟨a, cap, h1, h2, -⟩ := h.recs hi hk
  have HR : Hid (∀ w1, Below w.heap.size w w1 → IsRecs encR 64 w1 (.slice a (S k).L.length cap) (S k).L ∧ w1.cell? ⟨g, k * 10 + 1, none⟩ = some (.slice a (S k).L.length cap)) := fun w1 hb => ⟨h2.below hb, (hb.cell (cell_lt h1)).trans h1⟩
  have hg := h.glt
  have HWG : Hid (∀ w1, Below w.heap.size w w1 → Calls Try.prog 56 #[.pointer (some ⟨g, k * 10, none⟩), opV o] w1 fun e w' => e = .returned (.int .i64 (wgE (S k) o)) ∧ Below w1.heap.size w1 w') := fun w1 hb => wrongGuard_any mv base g S k hk o w1 (HW.out _ hb)
  have HRM0 : Hid (0 ≤ o.count → o.count ≤ 64 → ∀ w1, Below w.heap.size w w1 → Calls Try.prog 57 #[.pointer (some ⟨g, 0, none⟩), .int .i64 o.count] w1 fun e w' => e = .returned (.bool (room S o.count)) ∧ Below w1.heap.size w1 w') := fun h0 h1 w1 hb => hasRoom_any mv base g S _ w1 (HW.out _ hb) hi h0 h1
  have HCH : Hid (∀ wo, Below w.heap.size w wo → ∀ w1, Below wo.heap.size wo w1 → Calls Try.prog 58 #[.slice a (S k).L.length cap, .int .i64 o.count, .int .i64 o.draw] w1 fun e w' => e = .returned (numV (mapF (S k) o) (choE (S k).L o.count)) ∧ Below wo.heap.size wo w') := fun wo hbo w1 hb => by
    refine (choose_any _ _ o.count o.draw 64 w1 ((HR.out _ hbo).1.below hb) (by decide) hw).mono ?_
    rintro e w2 ⟨he, hb2⟩
    exact ⟨he, hb.trans (hb2.mono hb.size)⟩
  have HE : Hid (mapE S (S k) o = if o.count < 1 ∨ 64 < o.count then 2 else if wgE (S k) o = 0 then if room S o.count then choE (S k).L o.count else 4 else wgE (S k) o) := rfl
  have HOK : Hid (mapE S (S k) o = 0 → ∃ f c : Nat, mapF (S k) o = f ∧ o.count = c ∧ 1 ≤ c ∧ f + c ≤ 64 ∧ addE (S k).L ((f : Int), (f : Int) + c, o.rights, o.key, o.tagged, false) = 0 ∧
      (∀ mv base g w4, WOK mv base g w4 (upd S k { S k with L := addL (S k).L ((f : Int), (f : Int) + c, o.rights, o.key, o.tagged, false) }) → WOK mv base g w4 (upd S k (mapP (S k) o)))) := by
    intro hz
    obtain ⟨⟨m1, m2, m3⟩, m4, -⟩ := map_said hz
    refine ⟨(mapF (S k) o).toNat, o.count.toNat, by omega, by omega, by omega, by omega, ?_, ?_⟩
    · rw [Int.toNat_of_nonneg m1, Int.toNat_of_nonneg (show 0 ≤ o.count by omega)]; exact m4
    · intro mv base g w4 h4
      refine h4.alike (fun i => ?_)
      have hf : ((mapF (S k) o).toNat : Int) = mapF (S k) o := Int.toNat_of_nonneg m1
      have hc : (o.count.toNat : Int) = o.count := Int.toNat_of_nonneg (by omega)
      by_cases hik : i = k
      · subst hik
        simp only [upd_at]
        unfold mapP
        rw [hf, hc]
        exact ⟨rfl, rfl, rfl⟩
      · rw [upd_ne hik, upd_ne hik]
        exact ⟨rfl, rfl, rfl⟩
  obtain ⟨R, hR⟩ : ∃ R, Hid (R = if mapE S (S k) o = 0 then upd S k (mapP (S k) o) else S) := ⟨_, rfl⟩
  obtain ⟨V, hV⟩ : ∃ V, Hid (V = if mapE S (S k) o = 0 then mapF (S k) o else 0) := ⟨_, rfl⟩
  rw [← hR.out, ← hV.out]
  have HPK : Hid (∀ wo, Below w.heap.size w wo → ∀ f t, addE (S k).L (f, t, o.rights, o.key, o.tagged, false) = 0 → ∀ w1, Below wo.heap.size wo w1 → Calls Try.prog 60 #[.slice a (S k).L.length cap, .agg #[.int .i64 f, .int .i64 t, .int .i64 o.rights, .int .i64 o.key, .bool o.tagged, .bool false]] w1 fun e w' => ∃ a n c, e = .returned (lstV (.slice a n c) 0) ∧ Hid (KP mv base g k wo (upd S k { S k with L := addL (S k).L (f, t, o.rights, o.key, o.tagged, false) }) 0 w' (.slice a n c)) ∧ Spare g wo w') := fun wo hb f t hE w1 hb1 => add_pack hk (HW.out _ hb) (HR.out _ hb).1 f t _ _ _ _ w1 hb1 hE
  clear h h2 hi hw
  generalize mapE S (S k) o = E at *
  generalize mapF (S k) o = MF at *
  obtain ⟨MP, hMP⟩ : ∃ MP, MP = upd S k (mapP (S k) o) := ⟨_, rfl⟩
  rw [← hMP] at hR HOK
  obtain ⟨AE, hAE⟩ : ∃ AE : Int → Int → Int, AE = fun f t => addE (S k).L (f, t, o.rights, o.key, o.tagged, false) := ⟨_, rfl⟩
  obtain ⟨AS, hAS⟩ : ∃ AS : Int → Int → W4, AS = fun f t => upd S k { S k with L := addL (S k).L (f, t, o.rights, o.key, o.tagged, false) } := ⟨_, rfl⟩
  have HPK2 : Hid (∀ wo, Below w.heap.size w wo → ∀ f t, AE f t = 0 → ∀ w1, Below wo.heap.size wo w1 → Calls Try.prog 60 #[.slice a (S k).L.length cap, .agg #[.int .i64 f, .int .i64 t, .int .i64 o.rights, .int .i64 o.key, .bool o.tagged, .bool false]] w1 fun e w' => ∃ a n c, e = .returned (lstV (.slice a n c) 0) ∧ Hid (KP mv base g k wo (AS f t) 0 w' (.slice a n c)) ∧ Spare g wo w') := by rw [hAE, hAS]; exact HPK.out
  have HOK2 : Hid (E = 0 → ∃ f c : Nat, MF = f ∧ o.count = c ∧ 1 ≤ c ∧ f + c ≤ 64 ∧ AE (f : Int) ((f : Int) + c) = 0 ∧ (∀ mv base g w4, WOK mv base g w4 (AS (f : Int) ((f : Int) + c)) → WOK mv base g w4 MP)) := by rw [hAE, hAS]; exact HOK.out
  clear HPK HOK hMP hAE hAS
  generalize wgE (S k) o = G at *
  generalize choE (S k).L o.count = CE at *
  generalize (S k).L.length = m at *
  obtain ⟨kind, proc, page, count, rights, key, tagged, draw, addr, size, value, tag⟩ := o
  simp only at HE HCH HRM0 HPK2 HOK2 ⊢
  generalize room S count = RM at *
  have hbA : Below w.heap.size w (w.alloc (.cells #[.int .i64 kind, .int .i64 proc, .int .i64 page, .int .i64 count, .int .i64 rights, .int .i64 key, .bool tagged, .int .i64 draw, .int .i64 addr, .int .i64 size, .int .i64 value, .int .i64 tag] 24)) := (Below.refl _ _).alloc (Nat.le_refl _) _
  have HC : Hid (∀ w1, Below (w.alloc (.cells #[.int .i64 kind, .int .i64 proc, .int .i64 page, .int .i64 count, .int .i64 rights, .int .i64 key, .bool tagged, .int .i64 draw, .int .i64 addr, .int .i64 size, .int .i64 value, .int .i64 tag] 24)).heap.size (w.alloc (.cells #[.int .i64 kind, .int .i64 proc, .int .i64 page, .int .i64 count, .int .i64 rights, .int .i64 key, .bool tagged, .int .i64 draw, .int .i64 addr, .int .i64 size, .int .i64 value, .int .i64 tag] 24)) w1 → OwnRow w1 w.heap.size 24 [.int .i64 kind, .int .i64 proc, .int .i64 page, .int .i64 count, .int .i64 rights, .int .i64 key, .bool tagged, .int .i64 draw, .int .i64 addr, .int .i64 size, .int .i64 value, .int .i64 tag] ∧ Below w.heap.size w w1 ∧ w.heap.size < w1.heap.size) := fun w1 hb => ⟨box12 hb, hbA.trans (hb.mono hbA.size), (box12 hb).lt⟩
  have HBA : Hid (Below w.heap.size w (w.alloc (.cells #[.int .i64 kind, .int .i64 proc, .int .i64 page, .int .i64 count, .int .i64 rights, .int .i64 key, .bool tagged, .int .i64 draw, .int .i64 addr, .int .i64 size, .int .i64 value, .int .i64 tag] 24))) := hbA
  -- what an error leaves
  have HERR : Hid (E ≠ 0 → R = S ∧ V = 0) := fun hne => ⟨by rw [hR.out, if_neg hne], by rw [hV.out, if_neg hne]⟩
  have HFINE : Hid (E = 0 → R = MP ∧ V = MF) := fun he => ⟨by rw [hR.out, if_pos he], by rw [hV.out, if_pos he]⟩
  clear hR hV
  by_cases q1 : count < 1
  · have HQ : Hid (E = 2) := HE.out.trans (if_pos (Or.inl q1))
    obtain rfl := HQ.out
    obtain ⟨rfl, rfl⟩ := HERR.out (by decide)
    clear HE HPK2 HOK2 HRM0 HERR HFINE HQ HCH
    go_enter Try.func46, Try.ntmps46
    go_wp2
    go_ret2
    exact ⟨rfl, HW.out _ HBA.out, Spare.of_below HBA.out⟩
  by_cases q2 : 64 < count
  · have HQ : Hid (E = 2) := HE.out.trans (if_pos (Or.inr q2))
    obtain rfl := HQ.out
    obtain ⟨rfl, rfl⟩ := HERR.out (by decide)
    clear HE HPK2 HOK2 HRM0 HERR HFINE HQ HCH
    go_enter Try.func46, Try.ntmps46
    go_wp2
    go_ret2
    exact ⟨rfl, HW.out _ HBA.out, Spare.of_below HBA.out⟩
  have HRM : Hid _ := HRM0.out (by omega) (by omega)
  have HE2 : Hid (E = if G = 0 then if RM = true then CE else 4 else G) := HE.out.trans (if_neg (by omega))
  clear HE HRM0
  by_cases hG : G = 0
  case neg =>
    have HQ : Hid (E = G) := HE2.out.trans (if_neg hG)
    obtain rfl := HQ.out
    obtain ⟨rfl, rfl⟩ := HERR.out hG
    have hGd : (E != 0) = true := by simpa using hG
    clear HE2 HPK2 HOK2 HERR HFINE HQ HCH HRM
    go_enter Try.func46, Try.ntmps46
    go_wp2_with (first | (go_at_call 56; refine (HWG.out _ hbA).mono ?_; rintro e w1 ⟨rfl, hb1⟩; obtain ⟨hbx, hbw, hlt⟩ := HC.out _ hb1; obtain ⟨⟨b0, b1, b2, b3, b4, b5⟩, b6, b7, b8, b9, b10, b11⟩ := hbx.twelve; clear hbx))
    go_ret2
    exact ⟨rfl, HW.out _ hbw, Spare.of_below hbw⟩
  subst hG
  have HE3 : Hid (E = if RM = true then CE else 4) := HE2.out.trans (if_pos rfl)
  clear HE2
  cases RM
  case false =>
    have HQ : Hid (E = 4) := HE3.out
    obtain rfl := HQ.out
    obtain ⟨rfl, rfl⟩ := HERR.out (by decide)
    clear HE3 HPK2 HOK2 HERR HFINE HQ HCH
    go_enter Try.func46, Try.ntmps46
    go_wp2_with (first | (go_at_call 56; refine (HWG.out _ hbA).mono ?_; rintro e w1 ⟨rfl, hb1⟩; obtain ⟨hbx, hbw, hlt⟩ := HC.out _ hb1; obtain ⟨⟨b0, b1, b2, b3, b4, b5⟩, b6, b7, b8, b9, b10, b11⟩ := hbx.twelve; clear hbx) | (go_at_call 57; refine (HRM.out _ hbw).mono ?_; rintro e w1 ⟨rfl, hb2⟩; replace hb1 := hb1.trans (hb2.mono hb1.size); clear b0 b1 b2 b3 b4 b5 b6 b7 b8 b9 b10 b11 hlt hbw hb2; obtain ⟨hbx, hbw, hlt⟩ := HC.out _ hb1; obtain ⟨⟨b0, b1, b2, b3, b4, b5⟩, b6, b7, b8, b9, b10, b11⟩ := hbx.twelve; clear hbx))
    go_ret2
    exact ⟨rfl, HW.out _ hbw, Spare.of_below hbw⟩
  have HQ : Hid (E = CE) := HE3.out
  obtain rfl := HQ.out
  clear HE3 HQ
  go_enter Try.func46, Try.ntmps46
  go_wp2_with (first | (go_at_call 56; refine (HWG.out _ hbA).mono ?_; rintro e w1 ⟨rfl, hb1⟩; obtain ⟨hbx, hbw, hlt⟩ := HC.out _ hb1; obtain ⟨⟨b0, b1, b2, b3, b4, b5⟩, b6, b7, b8, b9, b10, b11⟩ := hbx.twelve; clear hbx) | (go_at_call 57; refine (HRM.out _ hbw).mono ?_; rintro e w1 ⟨rfl, hb2⟩; replace hb1 := hb1.trans (hb2.mono hb1.size); clear b0 b1 b2 b3 b4 b5 b6 b7 b8 b9 b10 b11 hlt hbw hb2; obtain ⟨hbx, hbw, hlt⟩ := HC.out _ hb1; obtain ⟨⟨b0, b1, b2, b3, b4, b5⟩, b6, b7, b8, b9, b10, b11⟩ := hbx.twelve; clear hbx))
  have hcr := (HR.out _ hbw).2
  obtain ⟨wo, rfl⟩ : ∃ wo, wo = w1 := ⟨_, rfl⟩
  have HCH2 : Hid (∀ w1, Below wo.heap.size wo w1 → Calls Try.prog 58 #[.slice a m cap, .int .i64 count, .int .i64 draw] w1 fun e w' => e = .returned (numV MF E) ∧ Below wo.heap.size wo w') := HCH.out _ hbw
  clear HCH HRM HWG
  refine wp_region_noPanic ?_
  refine wp_region_held_drew (S := (fun w' => w'.cell? ⟨g, k * 10 + 1, none⟩ = some (.slice a m cap) ∧ w'.cell? ⟨w.heap.size, 3, none⟩ = some (.int .i64 count) ∧ w'.cell? ⟨w.heap.size, 7, none⟩ = some (.int .i64 draw) ∧ Below wo.heap.size wo w')) (by kernel_rfl) (nx3b hcr b3 b7 (Below.refl _ _).drew) (fun hHeld => ?_)
  refine take_to 0 (some 34) (v := ?_) rfl rfl (by kernel_rfl) (by kernel_rfl) (by kernel_rfl) (fun _ _ _ h => h) (Or.inl ⟨by rfl, ?_⟩) (by assumption) ?_
  rotate_left
  · intro w hSw
    (try dsimp only at hSw)
    go_simp
    with_reducible rfl
  simp only [Act.put, List.setIfInBounds_toArray, List.set_cons_zero, List.set_cons_succ]
  refine take_to 1 (some 35) (v := ?_) rfl rfl (by kernel_rfl) (by kernel_rfl) (by kernel_rfl) (fun _ _ _ h => h) (Or.inl ⟨by rfl, ?_⟩) (by assumption) ?_
  rotate_left
  · intro w hSw
    (try dsimp only at hSw)
    go_simp
    with_reducible rfl
  simp only [Act.put, List.setIfInBounds_toArray, List.set_cons_zero, List.set_cons_succ]
  refine take_to 2 (some 36) (v := ?_) rfl rfl (by kernel_rfl) (by kernel_rfl) (by kernel_rfl) (fun _ _ _ h => h) (Or.inl ⟨by rfl, ?_⟩) (by assumption) ?_
  rotate_left
  · intro w hSw
    (try dsimp only at hSw)
    go_simp
    with_reducible rfl
  simp only [Act.put, List.setIfInBounds_toArray, List.set_cons_zero, List.set_cons_succ]
  refine take_to 3 (some 37) (v := ?_) rfl rfl (by kernel_rfl) (by kernel_rfl) (by kernel_rfl) (fun _ _ _ h => h) (Or.inl ⟨by rfl, ?_⟩) (by assumption) ?_
  rotate_left
  · intro w hSw
    (try dsimp only at hSw)
    go_simp
    with_reducible rfl
  simp only [Act.put, List.setIfInBounds_toArray, List.set_cons_zero, List.set_cons_succ]
  refine take_to 4 (some 38) (v := ?_) rfl rfl (by kernel_rfl) (by kernel_rfl) (by kernel_rfl) (fun _ _ _ h => h) (Or.inl ⟨by rfl, ?_⟩) (by assumption) ?_
  rotate_left
  · intro w hSw
    (try dsimp only at hSw)
    go_simp
    with_reducible rfl
  simp only [Act.put, List.setIfInBounds_toArray, List.set_cons_zero, List.set_cons_succ]
  refine take_to 5 (some 39) (v := ?_) rfl rfl (by kernel_rfl) (by kernel_rfl) (by kernel_rfl) (fun _ _ _ h => h) (Or.inl ⟨by rfl, ?_⟩) (by assumption) ?_
  rotate_left
  · intro w hSw
    (try dsimp only at hSw)
    go_simp
    with_reducible rfl
  simp only [Act.put, List.setIfInBounds_toArray, List.set_cons_zero, List.set_cons_succ]
  refine take_to 6 (some 40) (v := ?_) rfl rfl (by kernel_rfl) (by kernel_rfl) (by kernel_rfl) (fun _ _ _ h => h) (Or.inl ⟨by rfl, ?_⟩) (by assumption) ?_
  rotate_left
  · intro w hSw
    (try dsimp only at hSw)
    go_simp
    with_reducible rfl
  simp only [Act.put, List.setIfInBounds_toArray, List.set_cons_zero, List.set_cons_succ]
  refine take_to 7 (some 41) (v := ?_) rfl rfl (by kernel_rfl) (by kernel_rfl) (by kernel_rfl) (fun _ _ _ h => h) (Or.inl ⟨by rfl, ?_⟩) (by assumption) ?_
  rotate_left
  · intro w hSw
    (try dsimp only at hSw)
    go_simp
    with_reducible rfl
  simp only [Act.put, List.setIfInBounds_toArray, List.set_cons_zero, List.set_cons_succ]
  refine wpAnyH_ready (rs := [8]) (by kernel_rfl) (by simp) ?_
  refine AllReadyH.cons rfl (fun K hK => ?_) AllReadyH.nil
  go_simp
  refine Calls.mono (HCH2.out _ (Below.refl _ _).drew) ?_
  rintro e w2 ⟨rfl, hbw2⟩
  go_wp2_with fail
  refine hK.out _ _ (nx3b hcr b3 b7 hbw2) (fun hHeld => ?_)
  clear hK K
  try simp only [Act.put, List.setIfInBounds_toArray, List.set_cons_zero, List.set_cons_succ]
  refine take_to 9 (some 33) (v := ?_) rfl rfl (by kernel_rfl) (by kernel_rfl) (by kernel_rfl) (fun _ _ _ h => h) (Or.inl ⟨by rfl, ?_⟩) (by assumption) ?_
  rotate_left
  · intro w hSw
    (try dsimp only at hSw)
    go_simp
    with_reducible rfl
  simp only [Act.put, List.setIfInBounds_toArray, List.set_cons_zero, List.set_cons_succ]
  refine take_to 10 (some 43) (v := ?_) rfl rfl (by kernel_rfl) (by kernel_rfl) (by kernel_rfl) (fun _ _ _ h => h) (Or.inl ⟨by rfl, ?_⟩) (by assumption) ?_
  rotate_left
  · intro w hSw
    (try dsimp only at hSw)
    go_simp
    with_reducible rfl
  simp only [Act.put, List.setIfInBounds_toArray, List.set_cons_zero, List.set_cons_succ]
  refine take_to 11 (some 44) (v := ?_) rfl rfl (by kernel_rfl) (by kernel_rfl) (by kernel_rfl) (fun _ _ _ h => h) (Or.inl ⟨by rfl, ?_⟩) (by assumption) ?_
  rotate_left
  · intro w hSw
    (try dsimp only at hSw)
    go_simp
    with_reducible rfl
  simp only [Act.put, List.setIfInBounds_toArray, List.set_cons_zero, List.set_cons_succ]
  refine take_to 12 (some 9) (v := ?_) rfl rfl (by kernel_rfl) (by kernel_rfl) (by kernel_rfl) (fun _ _ _ h => h) (Or.inl ⟨by rfl, ?_⟩) (by assumption) ?_
  rotate_left
  · intro w hSw
    (try dsimp only at hSw)
    go_simp
    with_reducible rfl
  simp only [Act.put, List.setIfInBounds_toArray, List.set_cons_zero, List.set_cons_succ]
  refine take_to 13 (some 10) (v := ?_) rfl rfl (by kernel_rfl) (by kernel_rfl) (by kernel_rfl) (fun _ _ _ h => h) (Or.inl ⟨by rfl, ?_⟩) (by assumption) ?_
  rotate_left
  · intro w hSw
    (try dsimp only at hSw)
    go_simp
    with_reducible rfl
  simp only [Act.put, List.setIfInBounds_toArray, List.set_cons_zero, List.set_cons_succ]
  refine wpAnyH_done (by kernel_rfl) ?_ _
  refine NoPanic.normal ?_
  replace hb1 := hb1.trans (hbw2.mono hb1.size)
  clear b0 b1 b2 b3 b4 b5 b6 b7 b8 b9 b10 b11 hlt hbw hcr HCH2 hbw2 hHeld
  obtain ⟨hbx, hbw, hlt⟩ := HC.out _ hb1
  obtain ⟨⟨b0, b1, b2, b3, b4, b5⟩, b6, b7, b8, b9, b10, b11⟩ := hbx.twelve
  clear hbx
  by_cases hE : E = 0
  case neg =>
    obtain ⟨rfl, rfl⟩ := HERR.out hE
    have hGd : (E != 0) = true := by simpa using hE
    clear HERR HFINE HPK2 HOK2
    go_wp2
    go_ret2
    exact ⟨rfl, HW.out _ hbw, Spare.of_below hbw⟩
  subst hE
  obtain ⟨rfl, rfl⟩ := HFINE.out rfl
  obtain ⟨f, c, rfl, rfl, hc1, hfc, hae, HFIN0⟩ := HOK2.out rfl
  have HFIN : Hid _ := HFIN0
  have e1 : wrap64 ((f : Int) + c) = f + c := by unfold wrap64; omega
  clear HERR HFINE HOK2 HFIN0
  go_wp2_with fail
  have hoA : OwnRow (w2.alloc (.cells #[.int .i64 rights, .int .i64 key, .bool tagged, .bool false] 48)) w2.heap.size 48 [.int .i64 rights, .int .i64 key, .bool tagged, .bool false] := heap_alloc_new w2 _
  have hbB : Below w.heap.size w (w2.alloc (.cells #[.int .i64 rights, .int .i64 key, .bool tagged, .bool false] 48)) := below_al hbw _
  have hcr := (HR.out _ hbB).2
  have hne : w2.heap.size ≠ g := by omega
  generalize (w2.alloc (.cells #[.int .i64 rights, .int .i64 key, .bool tagged, .bool false] 48)) = wa at hoA hbB hcr ⊢
  have HPK3 : Hid (∀ w1, Below wa.heap.size wa w1 → Calls Try.prog 60 #[.slice a m cap, .agg #[.int .i64 f, .int .i64 ((f : Int) + c), .int .i64 rights, .int .i64 key, .bool tagged, .bool false]] w1 fun e w' => ∃ a n c2, e = .returned (lstV (.slice a n c2) 0) ∧ Hid (KP mv base g k wa (AS (f : Int) ((f : Int) + c)) 0 w' (.slice a n c2)) ∧ Spare g wa w') := HPK2.out wa hbB _ _ hae
  have HBB : Hid (Spare g w wa) := Spare.of_below hbB
  clear HPK2 HR hae b0 b1 b2 b3 b4 b5 b6 b7 b8 b9 b10 b11 hbw hbB HC hbA HBA HW
  refine wp_region_noPanic ?_
  refine wp_region_held_drew (S := (fun w' => w'.cell? ⟨w2.heap.size, 0, none⟩ = some (.int .i64 rights) ∧ w'.cell? ⟨w2.heap.size, 1, none⟩ = some (.int .i64 key) ∧ w'.cell? ⟨w2.heap.size, 2, none⟩ = some (.bool tagged) ∧ w'.cell? ⟨w2.heap.size, 3, none⟩ = some (.bool false) ∧ Spare g wa w')) (by kernel_rfl) (nxs4b hoA hne (Spare.of_below (Below.refl _ _).drew)) (fun hHeld => ?_)
  refine take_to 0 (some 59) (v := ?_) rfl rfl (by kernel_rfl) (by kernel_rfl) (by kernel_rfl) (fun _ _ _ h => h) (Or.inl ⟨by rfl, ?_⟩) (by assumption) ?_
  rotate_left
  · intro w hSw
    (try dsimp only at hSw)
    go_simp
    with_reducible rfl
  simp only [Act.put, List.setIfInBounds_toArray, List.set_cons_zero, List.set_cons_succ]
  refine take_to 1 (some 60) (v := ?_) rfl rfl (by kernel_rfl) (by kernel_rfl) (by kernel_rfl) (fun _ _ _ h => h) (Or.inl ⟨by rfl, ?_⟩) (by assumption) ?_
  rotate_left
  · intro w hSw
    (try dsimp only at hSw)
    go_simp
    with_reducible rfl
  simp only [Act.put, List.setIfInBounds_toArray, List.set_cons_zero, List.set_cons_succ]
  refine take_to 2 (some 61) (v := ?_) rfl rfl (by kernel_rfl) (by kernel_rfl) (by kernel_rfl) (fun _ _ _ h => h) (Or.inl ⟨by rfl, ?_⟩) (by assumption) ?_
  rotate_left
  · intro w hSw
    (try dsimp only at hSw)
    go_simp
    with_reducible rfl
  simp only [Act.put, List.setIfInBounds_toArray, List.set_cons_zero, List.set_cons_succ]
  refine take_to 3 (some 62) (v := ?_) rfl rfl (by kernel_rfl) (by kernel_rfl) (by kernel_rfl) (fun _ _ _ h => h) (Or.inl ⟨by rfl, ?_⟩) (by assumption) ?_
  rotate_left
  · intro w hSw
    (try dsimp only at hSw)
    go_simp
    with_reducible rfl
  simp only [Act.put, List.setIfInBounds_toArray, List.set_cons_zero, List.set_cons_succ]
  refine take_to 5 (some 64) (v := ?_) rfl rfl (by kernel_rfl) (by kernel_rfl) (by kernel_rfl) (fun _ _ _ h => h) (Or.inl ⟨by rfl, ?_⟩) (by assumption) ?_
  rotate_left
  · intro w hSw
    (try dsimp only at hSw)
    go_simp
    with_reducible rfl
  simp only [Act.put, List.setIfInBounds_toArray, List.set_cons_zero, List.set_cons_succ]
  refine take_to 6 (some 65) (v := ?_) rfl rfl (by kernel_rfl) (by kernel_rfl) (by kernel_rfl) (fun _ _ _ h => h) (Or.inl ⟨by rfl, ?_⟩) (by assumption) ?_
  rotate_left
  · intro w hSw
    (try dsimp only at hSw)
    go_simp
    with_reducible rfl
  simp only [Act.put, List.setIfInBounds_toArray, List.set_cons_zero, List.set_cons_succ]
  refine take_to 7 (some 66) (v := ?_) rfl rfl (by kernel_rfl) (by kernel_rfl) (by kernel_rfl) (fun _ _ _ h => h) (Or.inl ⟨by rfl, ?_⟩) (by assumption) ?_
  rotate_left
  · intro w hSw
    (try dsimp only at hSw)
    go_simp
    with_reducible rfl
  simp only [Act.put, List.setIfInBounds_toArray, List.set_cons_zero, List.set_cons_succ]
  refine take_to 8 (some 67) (v := ?_) rfl rfl (by kernel_rfl) (by kernel_rfl) (by kernel_rfl) (fun _ _ _ h => h) (Or.inl ⟨by rfl, ?_⟩) (by assumption) ?_
  rotate_left
  · intro w hSw
    (try dsimp only at hSw)
    go_simp
    with_reducible rfl
  simp only [Act.put, List.setIfInBounds_toArray, List.set_cons_zero, List.set_cons_succ]
  refine wpAnyH_ready (rs := [4]) (by kernel_rfl) (by simp) ?_
  refine AllReadyH.cons rfl (fun K hK => ?_) AllReadyH.nil
  go_simp
  refine hK.out _ _ (nxs4b hoA hne (Spare.of_below (Below.refl _ _).drew)) (fun hHeld => ?_)
  clear hK K
  try simp only [Act.put, List.setIfInBounds_toArray, List.set_cons_zero, List.set_cons_succ]
  refine wpAnyH_ready (rs := [9]) (by kernel_rfl) (by simp) ?_
  refine AllReadyH.cons rfl (fun K hK => ?_) AllReadyH.nil
  go_simp
  refine Calls.mono (HPK3.out _ (Below.refl _ _).drew) ?_
  rintro e w3 ⟨a2, n2, c2, rfl, HK2, hsp2⟩
  go_wp2_with fail
  refine hK.out _ _ (nxs4b hoA hne hsp2) (fun hHeld => ?_)
  clear hK K
  try simp only [Act.put, List.setIfInBounds_toArray, List.set_cons_zero, List.set_cons_succ]
  refine take_to 10 (some 69) (v := ?_) rfl rfl (by kernel_rfl) (by kernel_rfl) (by kernel_rfl) (fun _ _ _ h => h) (Or.inl ⟨by rfl, ?_⟩) (by assumption) ?_
  rotate_left
  · intro w hSw
    (try dsimp only at hSw)
    go_simp
    with_reducible rfl
  simp only [Act.put, List.setIfInBounds_toArray, List.set_cons_zero, List.set_cons_succ]
  refine take_to 11 (some 70) (v := ?_) rfl rfl (by kernel_rfl) (by kernel_rfl) (by kernel_rfl) (fun _ _ _ h => h) (Or.inl ⟨by rfl, ?_⟩) (by assumption) ?_
  rotate_left
  · intro w hSw
    (try dsimp only at hSw)
    go_simp
    with_reducible rfl
  simp only [Act.put, List.setIfInBounds_toArray, List.set_cons_zero, List.set_cons_succ]
  refine wpAnyH_ready (rs := [12]) (by kernel_rfl) (by simp) ?_
  refine AllReadyH.cons rfl (fun K hK => ?_) AllReadyH.nil
  go_simp
  refine Calls.mono (HK2.out) ?_
  rintro e w4 ⟨rfl, hw4, hsp3⟩
  have HW4 : Hid _ := hw4
  clear hw4
  go_wp2_with fail
  refine hK.out _ _ (nxs4b hoA hne hsp3) (fun hHeld => ?_)
  clear hK K
  try simp only [Act.put, List.setIfInBounds_toArray, List.set_cons_zero, List.set_cons_succ]
  refine take_to 13 (some 13) (v := ?_) rfl rfl (by kernel_rfl) (by kernel_rfl) (by kernel_rfl) (fun _ _ _ h => h) (Or.inl ⟨by rfl, ?_⟩) (by assumption) ?_
  rotate_left
  · intro w hSw
    (try dsimp only at hSw)
    go_simp
    with_reducible rfl
  simp only [Act.put, List.setIfInBounds_toArray, List.set_cons_zero, List.set_cons_succ]
  refine wpAnyH_done (by kernel_rfl) ?_ _
  refine NoPanic.normal ?_
  clear HK2 HPK3 hHeld hsp2
  go_wp2
  go_ret2
  exact ⟨rfl, HFIN.out _ _ _ _ HW4.out, HBB.out.trans hsp3⟩

end Go.Proofs.Ytbiipnojhjhejaa

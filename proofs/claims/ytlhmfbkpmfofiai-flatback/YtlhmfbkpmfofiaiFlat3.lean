/- The contracts of flat.process.isThere and isSealed: whether pages are all there, whether one of them is sealed. -/
import Derived.Test.YtlhmfbkpmfofiaiFlat2
namespace Go.Proofs.Ytlhmfbkpmfofiai
set_option maxRecDepth 100000
open Go.RowKit
set_option linter.unusedSimpArgs false
set_option linter.unusedVariables false

theorem nx2b {wr b : World} {A B : Addr} {u v : Value} (h1 : wr.cell? A = some u) (h2 : wr.cell? B = some v) (h : Below wr.heap.size wr b) : b.cell? A = some u ∧ b.cell? B = some v ∧ Below wr.heap.size wr b :=
  ⟨(h.cell (cell_lt h1)).trans h1, (h.cell (cell_lt h2)).trans h2, h⟩

/-- A box that was laid, then an order drawn, then more. -/
theorem own_drew {w w1 : World} {e : TypeId} {xs : List Value} (hb : Below (w.alloc (.cells xs.toArray e)).drew.heap.size (w.alloc (.cells xs.toArray e)).drew w1) : OwnRow w1 w.heap.size e xs := by
  have h1 : OwnRow (w.alloc (.cells xs.toArray e)).drew w.heap.size e xs := heap_alloc_new w _
  exact h1.below hb h1.lt

theorem thr_iff {p : Pr} {o : O12} {n : Nat} (hn : o.count = n) : thr p o = true ↔ ∀ i, i < n → (atR p.L (o.page + (i : Int))).isSome = true := by
  unfold thr
  rw [hn, Int.toNat_natCast, List.all_eq_true]
  constructor
  · intro h i hi; exact h i (List.mem_range.2 hi)
  · intro h i hi; exact h i (List.mem_range.1 hi)

theorem sld_iff {p : Pr} {o : O12} {n : Nat} (hn : o.count = n) : sld p o = false ↔ ∀ i, i < n → ((atR p.L (o.page + (i : Int))).getD zA).2.2.2 = false := by
  unfold sld
  rw [hn, Int.toNat_natCast, List.any_eq_false]
  constructor
  · intro h i hi; simpa using h i (List.mem_range.2 hi)
  · intro h i hi; simpa using h i (List.mem_range.1 hi)

set_option maxHeartbeats 1600000 in
theorem isThere_any (base g : Nat) (S : W4) (k : Nat) (hk : k < 4) (o : O12) (hs : isS o = true) (w : World) (h : WOK base g w S) (hi : Inv S) :
    Calls Try.prog 55 #[.pointer (some ⟨g, k * 4362, none⟩), opV o] w fun e w' => e = .returned (.bool (thr (S k) o)) ∧ Below w.heap.size w w' := by
  obtain ⟨q0, q1, q2⟩ := isS_iff.1 hs
  obtain ⟨n, hn⟩ : ∃ n : Nat, o.count = n := ⟨o.count.toNat, by omega⟩
  have HT : Hid (thr (S k) o = true ↔ ∀ i, i < n → (atR (S k).L (o.page + (i : Int))).isSome = true) := thr_iff hn
  obtain ⟨a, cap, h1, h2, -⟩ := h.recs hi hk
  have HF : Hid (∀ w1 v p, v = .slice a (S k).L.length cap → Below w.heap.size w w1 → Calls Try.prog 14 #[v, .int .i64 p] w1 fun e w' => e = .returned (attO (atR (S k).L p)) ∧ Below w1.heap.size w1 w') := fun w1 v p hv hb => hv ▸ find_any _ _ p 64 w1 (h2.below hb) (by decide)
  have hg := h.glt
  generalize thr (S k) o = F at *
  clear h h2 hs
  generalize (S k).L = L at *
  generalize L.length = m at *
  obtain ⟨kind, proc, page, count, rights, key, tagged, draw, addr, size, value, tag⟩ := o
  simp only at q0 q1 q2 hn HT ⊢
  subst hn
  have hbA : Below w.heap.size w (w.alloc (.cells #[.int .i64 kind, .int .i64 proc, .int .i64 page, .int .i64 (n : Int), .int .i64 rights, .int .i64 key, .bool tagged, .int .i64 draw, .int .i64 addr, .int .i64 size, .int .i64 value, .int .i64 tag] 24)) := (Below.refl _ _).alloc (Nat.le_refl _) _
  have HC : Hid (∀ w1, Below (w.alloc (.cells #[.int .i64 kind, .int .i64 proc, .int .i64 page, .int .i64 (n : Int), .int .i64 rights, .int .i64 key, .bool tagged, .int .i64 draw, .int .i64 addr, .int .i64 size, .int .i64 value, .int .i64 tag] 24)).heap.size (w.alloc (.cells #[.int .i64 kind, .int .i64 proc, .int .i64 page, .int .i64 (n : Int), .int .i64 rights, .int .i64 key, .bool tagged, .int .i64 draw, .int .i64 addr, .int .i64 size, .int .i64 value, .int .i64 tag] 24)) w1 → w1.cell? ⟨w.heap.size, 2, none⟩ = some (.int .i64 page) ∧ w1.cell? ⟨g, k * 4362 + 1, none⟩ = some (.slice a m cap) ∧ Below w.heap.size w w1 ∧ w.heap.size < w1.heap.size) := fun w1 hb => by
    have ho := own_one (w := w) (xs := [.int .i64 kind, .int .i64 proc, .int .i64 page, .int .i64 (n : Int), .int .i64 rights, .int .i64 key, .bool tagged, .int .i64 draw, .int .i64 addr, .int .i64 size, .int .i64 value, .int .i64 tag]) (e := 24) hb
    have hb2 := hbA.trans (hb.mono hbA.size)
    exact ⟨by rw [ho.cell]; rfl, (hb2.cell (cell_lt h1)).trans h1, hb2, ho.lt⟩
  clear hbA
  go_enter Try.func55, Try.ntmps55
  go_wp2_with fail
  go_loopw [10] (fun i wr => ∃ j : Nat, j ≤ n ∧ i = .int .i64 j ∧ Hid (∀ i, i < j → (atR L (page + (i : Int))).isSome = true) ∧ Below (w.alloc (.cells #[.int .i64 kind, .int .i64 proc, .int .i64 page, .int .i64 (n : Int), .int .i64 rights, .int .i64 key, .bool tagged, .int .i64 draw, .int .i64 addr, .int .i64 size, .int .i64 value, .int .i64 tag] 24)).heap.size (w.alloc (.cells #[.int .i64 kind, .int .i64 proc, .int .i64 page, .int .i64 (n : Int), .int .i64 rights, .int .i64 key, .bool tagged, .int .i64 draw, .int .i64 addr, .int .i64 size, .int .i64 value, .int .i64 tag] 24)) wr) (fun i _ => n - (intOf i).toNat)
  case atStart => exact ⟨0, Nat.zero_le _, rfl, (fun i hi => absurd hi (Nat.not_lt_zero i)), Below.refl _ _⟩
  case round =>
    obtain ⟨j, hj, rfl, hok, hbel⟩ := hrel
    obtain ⟨hc1, hc2, hbw, hlt1⟩ := HC.out _ hbel
    by_cases hlt : j < n
    · have e1 : IntKind.i64.wrap (page + (j : Int)) = page + j := by rw [IntKind.wrap_i64]; omega
      obtain ⟨wo, rfl⟩ : ∃ wo, wo = wr := ⟨_, rfl⟩
      have HF2 : Hid (∀ w1, Below wo.heap.size wo w1 → Calls Try.prog 14 #[.slice a m cap, .int .i64 (IntKind.i64.wrap (page + (j : Int)))] w1 fun e w' => e = .returned (attO (atR L (page + j))) ∧ Below wo.heap.size wo w' ∧ Below w1.heap.size w1 w') := fun w1 hb => by
        rw [e1]
        refine (HF.out w1 _ _ rfl (hbw.trans (hb.mono hbw.size))).mono ?_
        rintro e w2 ⟨he, hb2⟩
        exact ⟨he, hb.trans (hb2.mono hb.size), hb2⟩
      have HY : Hid ((atR L (page + (j : Int))).isSome = true → ∀ i, i < j + 1 → (atR L (page + (i : Int))).isSome = true) := fun hz i hi => by
        by_cases he : i = j
        · rw [he]; exact hz
        · exact hok.out i (by omega)
      have HZ : Hid (¬ (atR L (page + (j : Int))).isSome = true → F = false) := fun hz => by
        cases hF : F with
        | true => exact absurd (HT.out.1 hF j hlt) hz
        | false => rfl
      have HB : Hid (∀ w', Below wo.heap.size wo w' → Below (w.alloc (.cells #[.int .i64 kind, .int .i64 proc, .int .i64 page, .int .i64 (n : Int), .int .i64 rights, .int .i64 key, .bool tagged, .int .i64 draw, .int .i64 addr, .int .i64 size, .int .i64 value, .int .i64 tag] 24)).heap.size (w.alloc (.cells #[.int .i64 kind, .int .i64 proc, .int .i64 page, .int .i64 (n : Int), .int .i64 rights, .int .i64 key, .bool tagged, .int .i64 draw, .int .i64 addr, .int .i64 size, .int .i64 value, .int .i64 tag] 24)) w' ∧ Below w.heap.size w w') := fun w' hb => ⟨hbel.trans (hb.mono hbel.size), hbw.trans (hb.mono hbw.size)⟩
      obtain ⟨A, hA⟩ : ∃ A, A = atR L (page + j) := ⟨_, rfl⟩
      rw [← hA] at HF2 HY HZ
      clear hA hok HF HT HC e1
      go_wp2_with fail
      obtain ⟨r, y, t, s, z, hAV, HX⟩ : ∃ r y t s z, attO A = attV r y t s z ∧ Hid ((z = true → ∀ i, i < j + 1 → (atR L (page + (i : Int))).isSome = true) ∧ (z = false → F = false)) := ⟨_, _, _, _, _, rfl, fun hz => HY.out hz, fun hz => HZ.out (by rw [hz]; decide)⟩
      rw [hAV] at HF2
      clear hAV HY HZ
      obtain ⟨P, hP⟩ : ∃ P : Prop, P = ∀ i, i < j + 1 → (atR L (page + (i : Int))).isSome = true := ⟨_, rfl⟩
      rw [← hP] at HX
      have HP : Hid _ := hP
      clear hP
      cases z
      all_goals
        first | (have HQ : Hid P := HX.out.1 rfl) | (have HQ : Hid (F = false) := HX.out.2 rfl)
        clear HX
        go_region_held3 (fun w' => w'.cell? ⟨w.heap.size, 2, none⟩ = some (.int .i64 page) ∧ w'.cell? ⟨g, k * 4362 + 1, none⟩ = some (.slice a m cap) ∧ Below wo.heap.size wo w') (first | exact nx2b hc1 hc2 ((Below.refl _ _).drew) | exact nx2b hc1 hc2 hbw2 | exact nx2b hc1 hc2 (((Below.refl _ _).drew).alloc (Nat.le_refl _) _) | exact nx2b hc1 hc2 (hbw2.alloc hbw2.size _) | exact nx2b hc1 hc2 ((((hbw2.setCell (Nat.le_refl _) _).setCell (Nat.le_refl _) _).setCell (Nat.le_refl _) _).setCell (Nat.le_refl _) _)) (first | (go_at_call 14; refine (HF2.out _ (by first | exact (Below.refl _ _).drew | exact ((Below.refl _ _).drew).alloc (Nat.le_refl _) _)).mono ?_; rintro e w2 ⟨rfl, hbw2, hw2⟩; (try have hX : OwnRow w2 wo.heap.size 44 [.int .i64 0, .int .i64 0, .bool false, .bool false] := own_drew hw2); (try obtain ⟨⟨x0, x1, x2, x3⟩, y0, y1, y2, y3⟩ := hX.quadf); (try have hXL := hX.lt); (try clear hX)))
        all_goals obtain ⟨-, -, hH⟩ := (show _ ∧ _ ∧ Below wo.heap.size wo _ by assumption)
        all_goals go_wp2
        all_goals first
          | (go_ret; exact ⟨ret_bool HQ.out.symm, (HB.out _ hH).2⟩)
          | (go_roundw; case rel => exact ⟨j + 1, by omega, by go_num, (by have := HQ.out; rw [HP.out] at this; exact this), (HB.out _ hH).1⟩; case measure => simp [intOf]; omega)
          | exact ⟨⟨j + 1, by omega, by go_num, (by have := HQ.out; rw [HP.out] at this; exact this), (HB.out _ hH).1⟩, by simp [intOf]; omega⟩
    · obtain rfl : j = n := by omega
      have HQ : Hid (F = true) := HT.out.2 hok.out
      go_wp2
      go_ret
      exact ⟨ret_bool HQ.out.symm, hbw⟩

set_option maxHeartbeats 1600000 in
theorem isSealed_any (base g : Nat) (S : W4) (k : Nat) (hk : k < 4) (o : O12) (hs : isS o = true) (w : World) (h : WOK base g w S) (hi : Inv S) :
    Calls Try.prog 53 #[.pointer (some ⟨g, k * 4362, none⟩), opV o] w fun e w' => e = .returned (.bool (sld (S k) o)) ∧ Below w.heap.size w w' := by
  obtain ⟨q0, q1, q2⟩ := isS_iff.1 hs
  obtain ⟨n, hn⟩ : ∃ n : Nat, o.count = n := ⟨o.count.toNat, by omega⟩
  have HT : Hid (sld (S k) o = false ↔ ∀ i, i < n → ((atR (S k).L (o.page + (i : Int))).getD zA).2.2.2 = false) := sld_iff hn
  obtain ⟨a, cap, h1, h2, -⟩ := h.recs hi hk
  have HF : Hid (∀ w1 v p, v = .slice a (S k).L.length cap → Below w.heap.size w w1 → Calls Try.prog 14 #[v, .int .i64 p] w1 fun e w' => e = .returned (attO (atR (S k).L p)) ∧ Below w1.heap.size w1 w') := fun w1 v p hv hb => hv ▸ find_any _ _ p 64 w1 (h2.below hb) (by decide)
  have hg := h.glt
  generalize sld (S k) o = F at *
  clear h h2 hs
  generalize (S k).L = L at *
  generalize L.length = m at *
  obtain ⟨kind, proc, page, count, rights, key, tagged, draw, addr, size, value, tag⟩ := o
  simp only at q0 q1 q2 hn HT ⊢
  subst hn
  have hbA : Below w.heap.size w (w.alloc (.cells #[.int .i64 kind, .int .i64 proc, .int .i64 page, .int .i64 (n : Int), .int .i64 rights, .int .i64 key, .bool tagged, .int .i64 draw, .int .i64 addr, .int .i64 size, .int .i64 value, .int .i64 tag] 24)) := (Below.refl _ _).alloc (Nat.le_refl _) _
  have HC : Hid (∀ w1, Below (w.alloc (.cells #[.int .i64 kind, .int .i64 proc, .int .i64 page, .int .i64 (n : Int), .int .i64 rights, .int .i64 key, .bool tagged, .int .i64 draw, .int .i64 addr, .int .i64 size, .int .i64 value, .int .i64 tag] 24)).heap.size (w.alloc (.cells #[.int .i64 kind, .int .i64 proc, .int .i64 page, .int .i64 (n : Int), .int .i64 rights, .int .i64 key, .bool tagged, .int .i64 draw, .int .i64 addr, .int .i64 size, .int .i64 value, .int .i64 tag] 24)) w1 → w1.cell? ⟨w.heap.size, 2, none⟩ = some (.int .i64 page) ∧ w1.cell? ⟨g, k * 4362 + 1, none⟩ = some (.slice a m cap) ∧ Below w.heap.size w w1 ∧ w.heap.size < w1.heap.size) := fun w1 hb => by
    have ho := own_one (w := w) (xs := [.int .i64 kind, .int .i64 proc, .int .i64 page, .int .i64 (n : Int), .int .i64 rights, .int .i64 key, .bool tagged, .int .i64 draw, .int .i64 addr, .int .i64 size, .int .i64 value, .int .i64 tag]) (e := 24) hb
    have hb2 := hbA.trans (hb.mono hbA.size)
    exact ⟨by rw [ho.cell]; rfl, (hb2.cell (cell_lt h1)).trans h1, hb2, ho.lt⟩
  clear hbA
  go_enter Try.func53, Try.ntmps53
  go_wp2_with fail
  go_loopw [10] (fun i wr => ∃ j : Nat, j ≤ n ∧ i = .int .i64 j ∧ Hid (∀ i, i < j → ((atR L (page + (i : Int))).getD zA).2.2.2 = false) ∧ Below (w.alloc (.cells #[.int .i64 kind, .int .i64 proc, .int .i64 page, .int .i64 (n : Int), .int .i64 rights, .int .i64 key, .bool tagged, .int .i64 draw, .int .i64 addr, .int .i64 size, .int .i64 value, .int .i64 tag] 24)).heap.size (w.alloc (.cells #[.int .i64 kind, .int .i64 proc, .int .i64 page, .int .i64 (n : Int), .int .i64 rights, .int .i64 key, .bool tagged, .int .i64 draw, .int .i64 addr, .int .i64 size, .int .i64 value, .int .i64 tag] 24)) wr) (fun i _ => n - (intOf i).toNat)
  case atStart => exact ⟨0, Nat.zero_le _, rfl, (fun i hi => absurd hi (Nat.not_lt_zero i)), Below.refl _ _⟩
  case round =>
    obtain ⟨j, hj, rfl, hok, hbel⟩ := hrel
    obtain ⟨hc1, hc2, hbw, hlt1⟩ := HC.out _ hbel
    by_cases hlt : j < n
    · have e1 : IntKind.i64.wrap (page + (j : Int)) = page + j := by rw [IntKind.wrap_i64]; omega
      obtain ⟨wo, rfl⟩ : ∃ wo, wo = wr := ⟨_, rfl⟩
      have HF2 : Hid (∀ w1, Below wo.heap.size wo w1 → Calls Try.prog 14 #[.slice a m cap, .int .i64 (IntKind.i64.wrap (page + (j : Int)))] w1 fun e w' => e = .returned (attO (atR L (page + j))) ∧ Below wo.heap.size wo w' ∧ Below w1.heap.size w1 w') := fun w1 hb => by
        rw [e1]
        refine (HF.out w1 _ _ rfl (hbw.trans (hb.mono hbw.size))).mono ?_
        rintro e w2 ⟨he, hb2⟩
        exact ⟨he, hb.trans (hb2.mono hb.size), hb2⟩
      have HY : Hid (((atR L (page + (j : Int))).getD zA).2.2.2 = false → ∀ i, i < j + 1 → ((atR L (page + (i : Int))).getD zA).2.2.2 = false) := fun hz i hi => by
        by_cases he : i = j
        · rw [he]; exact hz
        · exact hok.out i (by omega)
      have HZ : Hid (¬ ((atR L (page + (j : Int))).getD zA).2.2.2 = false → F = true) := fun hz => by
        cases hF : F with
        | false => exact absurd (HT.out.1 hF j hlt) hz
        | true => rfl
      have HB : Hid (∀ w', Below wo.heap.size wo w' → Below (w.alloc (.cells #[.int .i64 kind, .int .i64 proc, .int .i64 page, .int .i64 (n : Int), .int .i64 rights, .int .i64 key, .bool tagged, .int .i64 draw, .int .i64 addr, .int .i64 size, .int .i64 value, .int .i64 tag] 24)).heap.size (w.alloc (.cells #[.int .i64 kind, .int .i64 proc, .int .i64 page, .int .i64 (n : Int), .int .i64 rights, .int .i64 key, .bool tagged, .int .i64 draw, .int .i64 addr, .int .i64 size, .int .i64 value, .int .i64 tag] 24)) w' ∧ Below w.heap.size w w') := fun w' hb => ⟨hbel.trans (hb.mono hbel.size), hbw.trans (hb.mono hbw.size)⟩
      obtain ⟨A, hA⟩ : ∃ A, A = atR L (page + j) := ⟨_, rfl⟩
      rw [← hA] at HF2 HY HZ
      clear hA hok HF HT HC e1
      go_wp2_with fail
      obtain ⟨r, y, t, s, z, hAV, HX⟩ : ∃ r y t s z, attO A = attV r y t s z ∧ Hid ((s = false → ∀ i, i < j + 1 → ((atR L (page + (i : Int))).getD zA).2.2.2 = false) ∧ (s = true → F = true)) := ⟨_, _, _, _, _, rfl, fun hz => HY.out hz, fun hz => HZ.out (by rw [hz]; decide)⟩
      rw [hAV] at HF2
      clear hAV HY HZ
      obtain ⟨P, hP⟩ : ∃ P : Prop, P = ∀ i, i < j + 1 → ((atR L (page + (i : Int))).getD zA).2.2.2 = false := ⟨_, rfl⟩
      rw [← hP] at HX
      have HP : Hid _ := hP
      clear hP
      cases s
      all_goals
        first | (have HQ : Hid P := HX.out.1 rfl) | (have HQ : Hid (F = true) := HX.out.2 rfl)
        clear HX
        go_region_held3 (fun w' => w'.cell? ⟨w.heap.size, 2, none⟩ = some (.int .i64 page) ∧ w'.cell? ⟨g, k * 4362 + 1, none⟩ = some (.slice a m cap) ∧ Below wo.heap.size wo w') (first | exact nx2b hc1 hc2 ((Below.refl _ _).drew) | exact nx2b hc1 hc2 hbw2 | exact nx2b hc1 hc2 (((Below.refl _ _).drew).alloc (Nat.le_refl _) _) | exact nx2b hc1 hc2 (hbw2.alloc hbw2.size _) | exact nx2b hc1 hc2 ((((hbw2.setCell (Nat.le_refl _) _).setCell (Nat.le_refl _) _).setCell (Nat.le_refl _) _).setCell (Nat.le_refl _) _)) (first | (go_at_call 14; refine (HF2.out _ (by first | exact (Below.refl _ _).drew | exact ((Below.refl _ _).drew).alloc (Nat.le_refl _) _)).mono ?_; rintro e w2 ⟨rfl, hbw2, hw2⟩; (try have hX : OwnRow w2 wo.heap.size 44 [.int .i64 0, .int .i64 0, .bool false, .bool false] := own_drew hw2); (try obtain ⟨⟨x0, x1, x2, x3⟩, y0, y1, y2, y3⟩ := hX.quadf); (try have hXL := hX.lt); (try clear hX)))
        all_goals obtain ⟨-, -, hH⟩ := (show _ ∧ _ ∧ Below wo.heap.size wo _ by assumption)
        all_goals go_wp2
        all_goals first
          | (go_ret; exact ⟨ret_bool HQ.out.symm, (HB.out _ hH).2⟩)
          | (go_roundw; case rel => exact ⟨j + 1, by omega, by go_num, (by have := HQ.out; rw [HP.out] at this; exact this), (HB.out _ hH).1⟩; case measure => simp [intOf]; omega)
          | exact ⟨⟨j + 1, by omega, by go_num, (by have := HQ.out; rw [HP.out] at this; exact this), (HB.out _ hH).1⟩, by simp [intOf]; omega⟩
    · obtain rfl : j = n := by omega
      have HQ : Hid (F = false) := HT.out.2 hok.out
      go_wp2
      go_ret
      exact ⟨ret_bool HQ.out.symm, hbw⟩

end Go.Proofs.Ytlhmfbkpmfofiai

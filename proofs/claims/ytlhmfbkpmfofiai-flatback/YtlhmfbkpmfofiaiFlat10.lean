/- The contracts of flat.process.fault and look. -/
import Derived.Test.YtlhmfbkpmfofiaiFlat9
namespace Go.Proofs.Ytlhmfbkpmfofiai
set_option maxRecDepth 100000
open Go.RowKit
set_option linter.unusedSimpArgs false
set_option linter.unusedVariables false

theorem page_end (f t : Nat) (hft : f < t) (ht : t ≤ 4096) : ∃ E : Nat, E = min t ((f / 64 + 1) * 64) ∧ min (t : Int) (((f : Int) / 64 + 1) * 64) = (E : Int) ∧ f < E ∧ E ≤ t ∧ E ≤ (f / 64 + 1) * 64 ∧ (E = t ∨ E / 64 = f / 64 + 1) := by
  refine ⟨min t ((f / 64 + 1) * 64), rfl, by omega, by omega, by omega, by omega, ?_⟩
  by_cases h : t ≤ (f / 64 + 1) * 64
  · left; omega
  · right
    rw [Nat.min_eq_right (by omega)]
    exact Nat.mul_div_cancel _ (by decide)

theorem fuel_pos {n f t : Nat} (h : 65 ≤ n + f / 64 ∨ f = t) (hlt : f < t) (ht : t ≤ 4096) : ∃ m, n = m + 1 := by
  have h2 : f / 64 < 64 := by clear h; omega
  generalize f / 64 = Z at *
  exact ⟨n - 1, by omega⟩

set_option maxHeartbeats 1600000 in
theorem fault_any (base g : Nat) (S : W4) (k : Nat) (hk : k < 4) (o : O12) (f0 t : Nat) (hft : f0 ≤ t) (ht : t ≤ 4096) (w : World) (h : WOK base g w S) (hi : Inv S) :
    Calls Try.prog 32 #[.pointer (some ⟨g, k * 4362, none⟩), opV o, .int .i64 f0, .int .i64 t] w fun e w' => e = .returned (.tuple #[.int .i64 (flt (S k) o 65 f0 t).1, .int .i64 (flt (S k) o 65 f0 t).2]) ∧ Below w.heap.size w w' := by
  have HPF : Hid (∀ w1 (f t : Nat), Below w.heap.size w w1 → f < t → t ≤ (f / 64 + 1) * 64 → t ≤ 4096 → Calls Try.prog 46 #[.pointer (some ⟨g, k * 4362, none⟩), opV o, .int .i64 f, .int .i64 t] w1 fun e w' => e = .returned (.tuple #[.int .i64 (pfl (S k) o f t).1, .int .i64 (pfl (S k) o f t).2]) ∧ Below w1.heap.size w1 w') := fun w1 f t hb h1 h2 h3 => pageFault_any base g S k hk o f t h1 h2 h3 w1 (h.below hb) hi
  obtain ⟨FL, hFL⟩ : ∃ FL, FL = flt (S k) o := ⟨_, rfl⟩
  obtain ⟨PF, hPF⟩ : ∃ PF, PF = pfl (S k) o := ⟨_, rfl⟩
  have HFL : Hid (∀ n f t, FL (n + 1) f t = if f < t then if (PF f (min t ((f / 64 + 1) * 64))).1 = 0 then FL n (min t ((f / 64 + 1) * 64)) t else PF f (min t ((f / 64 + 1) * 64)) else (0, 0)) := fun n f t => by rw [hFL, hPF]; rfl
  have HFZ : Hid (∀ f t, FL 0 f t = (0, 0)) := fun f t => by rw [hFL]; rfl
  rw [← hPF] at HPF
  rw [← hFL]
  have hg := h.glt
  clear hFL hPF h hi
  obtain ⟨X, hX⟩ : ∃ X, X = FL 65 f0 t := ⟨_, rfl⟩
  rw [← hX]
  have HX : Hid _ := hX
  clear hX
  obtain ⟨kind, proc, page, count, rights, key, tagged, draw, addr, size, value, tag⟩ := o
  have hbA : Below w.heap.size w (w.alloc (.cells #[.int .i64 kind, .int .i64 proc, .int .i64 page, .int .i64 count, .int .i64 rights, .int .i64 key, .bool tagged, .int .i64 draw, .int .i64 addr, .int .i64 size, .int .i64 value, .int .i64 tag] 24)) := (Below.refl _ _).alloc (Nat.le_refl _) _
  have HC : Hid (∀ w1, Below (w.alloc (.cells #[.int .i64 kind, .int .i64 proc, .int .i64 page, .int .i64 count, .int .i64 rights, .int .i64 key, .bool tagged, .int .i64 draw, .int .i64 addr, .int .i64 size, .int .i64 value, .int .i64 tag] 24)).heap.size (w.alloc (.cells #[.int .i64 kind, .int .i64 proc, .int .i64 page, .int .i64 count, .int .i64 rights, .int .i64 key, .bool tagged, .int .i64 draw, .int .i64 addr, .int .i64 size, .int .i64 value, .int .i64 tag] 24)) w1 → OwnRow w1 w.heap.size 24 [.int .i64 kind, .int .i64 proc, .int .i64 page, .int .i64 count, .int .i64 rights, .int .i64 key, .bool tagged, .int .i64 draw, .int .i64 addr, .int .i64 size, .int .i64 value, .int .i64 tag] ∧ Below w.heap.size w w1 ∧ w.heap.size < w1.heap.size) := fun w1 hb => ⟨box12 hb, hbA.trans (hb.mono hbA.size), (box12 hb).lt⟩
  clear hbA
  go_enter Try.func32, Try.ntmps32
  go_wp2_with fail
  go_loopw [2] (fun i wr => ∃ f n : Nat, f ≤ t ∧ i = .int .i64 f ∧ Hid (X = FL n f t) ∧ Hid (65 ≤ n + f / 64 ∨ f = t) ∧ Below (w.alloc (.cells #[.int .i64 kind, .int .i64 proc, .int .i64 page, .int .i64 count, .int .i64 rights, .int .i64 key, .bool tagged, .int .i64 draw, .int .i64 addr, .int .i64 size, .int .i64 value, .int .i64 tag] 24)).heap.size (w.alloc (.cells #[.int .i64 kind, .int .i64 proc, .int .i64 page, .int .i64 count, .int .i64 rights, .int .i64 key, .bool tagged, .int .i64 draw, .int .i64 addr, .int .i64 size, .int .i64 value, .int .i64 tag] 24)) wr) (fun i _ => t - (intOf i).toNat)
  case atStart => exact ⟨f0, 65, hft, (by first | rfl | go_num), HX.out, Or.inl (Nat.le_add_right _ _), Below.refl _ _⟩
  case round =>
    obtain ⟨f, n, hf, rfl, hXF, hn, hbel⟩ := hrel
    obtain ⟨hbx, hbw, hlt0⟩ := HC.out _ hbel
    obtain ⟨⟨b0, b1, b2, b3, b4, b5⟩, b6, b7, b8, b9, b10, b11⟩ := hbx.twelve
    clear hbx
    by_cases hlt : f < t
    · obtain ⟨E, hE, e4, q1, q2, q3, q4⟩ := page_end f t hlt ht
      obtain ⟨m, hm⟩ := fuel_pos hn.out hlt ht
      have HXF : Hid (X = if (PF f E).1 = 0 then FL m E t else PF f E) := by
        have h1 := hXF.out
        rw [hm, HFL.out, if_pos hlt, ← hE] at h1
        exact h1
      have HN : Hid (65 ≤ m + E / 64 ∨ E = t) := by
        have h1 := hn.out
        rw [hm] at h1
        rcases q4 with h2 | h2
        · exact Or.inr h2
        · rw [h2]
          generalize f / 64 = Z at *
          left
          rcases h1 with h1 | h1
          · omega
          · omega
      have HPF2 : Hid (Calls Try.prog 46 #[.pointer (some ⟨g, k * 4362, none⟩), .agg #[.int .i64 kind, .int .i64 proc, .int .i64 page, .int .i64 count, .int .i64 rights, .int .i64 key, .bool tagged, .int .i64 draw, .int .i64 addr, .int .i64 size, .int .i64 value, .int .i64 tag], .int .i64 f, .int .i64 E] wr fun e w' => e = .returned (.tuple #[.int .i64 (PF f E).1, .int .i64 (PF f E).2]) ∧ Below wr.heap.size wr w') := HPF.out wr f E hbw q1 q3 (Nat.le_trans q2 ht)
      have HQ : Hid (f < E ∧ E ≤ t) := ⟨q1, q2⟩
      obtain ⟨Y, hY⟩ : ∃ Y, Y = PF f E := ⟨_, rfl⟩
      rw [← hY] at HXF HPF2
      obtain ⟨y1, y2⟩ := Y
      simp only at HXF HPF2
      clear hY hXF hn hm hE q3 q4 HX
      by_cases hy : y1 = 0
      · subst hy
        have HXN : Hid (X = FL m E t) := HXF.out.trans (if_pos rfl)
        clear HXF
        go_wp2_with (go_at_call 46; refine (HPF2.out).mono ?_; rintro e w2 ⟨rfl, hb2⟩)
        go_roundw
        case rel => exact ⟨E, m, q2, (by first | rfl | go_num), HXN.out, HN.out, hbel.trans (hb2.mono hbel.size)⟩
        case measure => simp [intOf]; omega
      · obtain rfl : X = (y1, y2) := HXF.out.trans (if_neg hy)
        have hd : (y1 != 0) = true := by simpa using hy
        clear HXF
        go_wp2_with (go_at_call 46; refine (HPF2.out).mono ?_; rintro e w2 ⟨rfl, hb2⟩)
        go_ret2
        exact ⟨rfl, hbw.trans (hb2.mono hbw.size)⟩
    · obtain rfl : f = t := by omega
      have HXN : Hid (X = (0, 0)) := by
        have h1 := hXF.out
        cases n with
        | zero => rw [HFZ.out] at h1; exact h1
        | succ n => rw [HFL.out, if_neg (by omega)] at h1; exact h1
      obtain rfl := HXN.out
      clear hXF HX
      go_wp2
      go_ret2
      exact ⟨rfl, hbw⟩

end Go.Proofs.Ytlhmfbkpmfofiai

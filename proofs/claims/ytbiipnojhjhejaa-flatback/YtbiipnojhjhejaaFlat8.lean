/- The contract of flat.touched: which addresses a look touches. -/
import Derived.Test.YtbiipnojhjhejaaFlat7
namespace Go.Proofs.Ytbiipnojhjhejaa
set_option maxRecDepth 100000
open Go.RowKit
set_option linter.unusedSimpArgs false
set_option linter.unusedVariables false

/-- From, to, and an error, as they are returned. -/
abbrev ftV (f t e : Int) : Value := .tuple #[.int .i64 f, .int .i64 t, .int .i64 e]

set_option maxHeartbeats 3200000 in
theorem touched_any (o : O12) (hw : bdI o.count) (hs : bdI o.size) (w : World) :
    Calls Try.prog 41 #[opV o] w fun e w' => e = .returned (ftV (if tchE o = 0 then o.addr else 0) (if tchE o = 0 then o.addr + tMany o * tEach o else 0) (tchE o)) ∧ Below w.heap.size w w' := by
  have hbe : Hid (∀ o, Below w.heap.size w (w.alloc o)) := fun o => (Below.refl _ _).alloc (Nat.le_refl _) _
  have hE : Hid (tchE o = if o.tag < 0 ∨ 15 < o.tag ∨ tMany o < 1 ∨ tMost o < tMany o then 2 else if o.addr < 0 ∨ 4096 - tMany o * tEach o < o.addr ∨ o.addr % tEach o ≠ 0 then 2 else 0) := rfl
  obtain ⟨X, hX⟩ : ∃ X, Hid (X = if tchE o = 0 then o.addr else 0) := ⟨_, rfl⟩
  obtain ⟨Y, hY⟩ : ∃ Y, Hid (Y = if tchE o = 0 then o.addr + tMany o * tEach o else 0) := ⟨_, rfl⟩
  rw [← hX.out, ← hY.out]
  have hM : Hid (tMany o = if o.kind = 13 then o.count else o.size) := rfl
  have hO : Hid (tMost o = if o.kind = 13 then 256 else 4) := rfl
  have hA : Hid (tEach o = if o.kind = 13 then 16 else 1) := rfl
  generalize tchE o = E at *
  generalize tMany o = M at *
  generalize tMost o = O at *
  generalize tEach o = A at *
  obtain ⟨kind, proc, page, count, rights, key, tagged, draw, addr, size, value, tag⟩ := o
  simp only at hE hX hY hM hO hA hw hs ⊢
  obtain ⟨hw1, hw2⟩ := hw
  obtain ⟨hs1, hs2⟩ := hs
  have HBAD : Hid (E = 2 → X = 0 ∧ Y = 0) := fun he => ⟨by rw [hX.out, if_neg (by omega)], by rw [hY.out, if_neg (by omega)]⟩
  by_cases hk : kind = 13
  · subst hk
    obtain rfl : M = count := hM.out.trans (if_pos rfl)
    obtain rfl : O = 256 := hO.out.trans (if_pos rfl)
    obtain rfl : A = 16 := hA.out.trans (if_pos rfl)
    clear hM hO hA
    by_cases h : tag < 0
    · obtain rfl : E = 2 := hE.out.trans (if_pos (Or.inl h))
      obtain ⟨rfl, rfl⟩ := HBAD.out (by first | rfl | trivial)
      clear HBAD hE hX hY
      go_enter Try.func41, Try.ntmps41
      go_wp2
      exact bodyPost_ret (v := ftV 0 0 2) (by simp [results, Try.results41, go_sem]) rfl ⟨rfl, hbe.out _⟩
    have n0 := h
    clear h
    by_cases h : 15 < tag
    · obtain rfl : E = 2 := hE.out.trans (if_pos (Or.inr (Or.inl h)))
      obtain ⟨rfl, rfl⟩ := HBAD.out (by first | rfl | trivial)
      clear HBAD hE hX hY
      go_enter Try.func41, Try.ntmps41
      go_wp2
      exact bodyPost_ret (v := ftV 0 0 2) (by simp [results, Try.results41, go_sem]) rfl ⟨rfl, hbe.out _⟩
    have n404 := h
    clear h
    by_cases h : M < 1
    · obtain rfl : E = 2 := hE.out.trans (if_pos (Or.inr (Or.inr (Or.inl h))))
      obtain ⟨rfl, rfl⟩ := HBAD.out (by first | rfl | trivial)
      clear HBAD hE hX hY
      go_enter Try.func41, Try.ntmps41
      go_wp2
      exact bodyPost_ret (v := ftV 0 0 2) (by simp [results, Try.results41, go_sem]) rfl ⟨rfl, hbe.out _⟩
    have n820 := h
    clear h
    by_cases h : 256 < M
    · obtain rfl : E = 2 := hE.out.trans (if_pos (Or.inr (Or.inr (Or.inr h))))
      obtain ⟨rfl, rfl⟩ := HBAD.out (by first | rfl | trivial)
      clear HBAD hE hX hY
      go_enter Try.func41, Try.ntmps41
      go_wp2
      exact bodyPost_ret (v := ftV 0 0 2) (by simp [results, Try.results41, go_sem]) rfl ⟨rfl, hbe.out _⟩
    have n1242 := h
    clear h
    have hE2 : Hid (E = if addr < 0 ∨ 4096 - M * 16 < addr ∨ addr % 16 ≠ 0 then 2 else 0) := hE.out.trans (if_neg (by omega))
    clear hE
    have e1 : wrap64 (M * 16) = M * 16 := by unfold wrap64; omega
    have e2 : wrap64 (4096 - M * 16) = 4096 - M * 16 := by unfold wrap64; omega
    by_cases h : addr < 0
    · obtain rfl : E = 2 := hE2.out.trans (if_pos (Or.inl h))
      obtain ⟨rfl, rfl⟩ := HBAD.out (by first | rfl | trivial)
      clear HBAD hE2 hX hY
      go_enter Try.func41, Try.ntmps41
      go_wp2
      exact bodyPost_ret (v := ftV 0 0 2) (by simp [results, Try.results41, go_sem]) rfl ⟨rfl, hbe.out _⟩
    have a1 := h
    clear h
    by_cases h : 4096 - M * 16 < addr
    · obtain rfl : E = 2 := hE2.out.trans (if_pos (Or.inr (Or.inl (by omega))))
      obtain ⟨rfl, rfl⟩ := HBAD.out (by first | rfl | trivial)
      clear HBAD hE2 hX hY
      go_enter Try.func41, Try.ntmps41
      go_wp2
      exact bodyPost_ret (v := ftV 0 0 2) (by simp [results, Try.results41, go_sem]) rfl ⟨rfl, hbe.out _⟩
    have a2 := h
    clear h
    have et : addr.tmod 16 = addr % 16 := Int.tmod_eq_emod_of_nonneg (by omega)
    by_cases h : addr % 16 = 0
    case neg =>
      obtain rfl : E = 2 := hE2.out.trans (if_pos (Or.inr (Or.inr h)))
      have hd : (addr % 16 != 0) = true := by simpa using h
      obtain ⟨rfl, rfl⟩ := HBAD.out (by first | rfl | trivial)
      clear HBAD hE2 hX hY
      go_enter Try.func41, Try.ntmps41
      go_wp2
      exact bodyPost_ret (v := ftV 0 0 2) (by simp [results, Try.results41, go_sem]) rfl ⟨rfl, hbe.out _⟩
    obtain rfl : E = 0 := hE2.out.trans (if_neg (by omega))
    obtain rfl := hX.out.trans (if_pos rfl)
    obtain rfl := hY.out.trans (if_pos rfl)
    have e4 : wrap64 (X + M * 16) = X + M * 16 := by unfold wrap64; omega
    clear HBAD hE2 hX hY
    go_enter Try.func41, Try.ntmps41
    go_wp2_with fail
    go_quiet (fail)
    go_wp2
    exact bodyPost_ret (v := ftV X (X + M * 16) 0) (by simp [results, Try.results41, go_sem]) rfl ⟨rfl, below_drewK (hbe.out _) _⟩
  · obtain rfl : M = size := hM.out.trans (if_neg hk)
    obtain rfl : O = 4 := hO.out.trans (if_neg hk)
    obtain rfl : A = 1 := hA.out.trans (if_neg hk)
    have hkd : (kind == 13) = false := by simpa using hk
    clear hM hO hA hk
    by_cases h : tag < 0
    · obtain rfl : E = 2 := hE.out.trans (if_pos (Or.inl h))
      obtain ⟨rfl, rfl⟩ := HBAD.out (by first | rfl | trivial)
      clear HBAD hE hX hY
      go_enter Try.func41, Try.ntmps41
      go_wp2
      exact bodyPost_ret (v := ftV 0 0 2) (by simp [results, Try.results41, go_sem]) rfl ⟨rfl, hbe.out _⟩
    have n0 := h
    clear h
    by_cases h : 15 < tag
    · obtain rfl : E = 2 := hE.out.trans (if_pos (Or.inr (Or.inl h)))
      obtain ⟨rfl, rfl⟩ := HBAD.out (by first | rfl | trivial)
      clear HBAD hE hX hY
      go_enter Try.func41, Try.ntmps41
      go_wp2
      exact bodyPost_ret (v := ftV 0 0 2) (by simp [results, Try.results41, go_sem]) rfl ⟨rfl, hbe.out _⟩
    have n404 := h
    clear h
    by_cases h : M < 1
    · obtain rfl : E = 2 := hE.out.trans (if_pos (Or.inr (Or.inr (Or.inl h))))
      obtain ⟨rfl, rfl⟩ := HBAD.out (by first | rfl | trivial)
      clear HBAD hE hX hY
      go_enter Try.func41, Try.ntmps41
      go_wp2
      exact bodyPost_ret (v := ftV 0 0 2) (by simp [results, Try.results41, go_sem]) rfl ⟨rfl, hbe.out _⟩
    have n820 := h
    clear h
    by_cases h : 4 < M
    · obtain rfl : E = 2 := hE.out.trans (if_pos (Or.inr (Or.inr (Or.inr h))))
      obtain ⟨rfl, rfl⟩ := HBAD.out (by first | rfl | trivial)
      clear HBAD hE hX hY
      go_enter Try.func41, Try.ntmps41
      go_wp2
      exact bodyPost_ret (v := ftV 0 0 2) (by simp [results, Try.results41, go_sem]) rfl ⟨rfl, hbe.out _⟩
    have n1242 := h
    clear h
    have hE2 : Hid (E = if addr < 0 ∨ 4096 - M * 1 < addr ∨ addr % 1 ≠ 0 then 2 else 0) := hE.out.trans (if_neg (by omega))
    clear hE
    have e1 : wrap64 (M * 1) = M * 1 := by unfold wrap64; omega
    have e0 : wrap64 M = M := by unfold wrap64; omega
    have e2 : wrap64 (4096 - M * 1) = 4096 - M * 1 := by unfold wrap64; omega
    have e3 : wrap64 (4096 - M) = 4096 - M := by unfold wrap64; omega
    by_cases h : addr < 0
    · obtain rfl : E = 2 := hE2.out.trans (if_pos (Or.inl h))
      obtain ⟨rfl, rfl⟩ := HBAD.out (by first | rfl | trivial)
      clear HBAD hE2 hX hY
      go_enter Try.func41, Try.ntmps41
      go_wp2
      exact bodyPost_ret (v := ftV 0 0 2) (by simp [results, Try.results41, go_sem]) rfl ⟨rfl, hbe.out _⟩
    have a1 := h
    clear h
    by_cases h : 4096 - M < addr
    · obtain rfl : E = 2 := hE2.out.trans (if_pos (Or.inr (Or.inl (by omega))))
      obtain ⟨rfl, rfl⟩ := HBAD.out (by first | rfl | trivial)
      clear HBAD hE2 hX hY
      go_enter Try.func41, Try.ntmps41
      go_wp2
      exact bodyPost_ret (v := ftV 0 0 2) (by simp [results, Try.results41, go_sem]) rfl ⟨rfl, hbe.out _⟩
    have a2 := h
    clear h
    obtain rfl : E = 0 := hE2.out.trans (if_neg (by omega))
    obtain rfl := hX.out.trans (if_pos rfl)
    obtain rfl := hY.out.trans (if_pos rfl)
    have e4 : wrap64 (X + M * 1) = X + M * 1 := by unfold wrap64; omega
    have e5 : wrap64 (X + M) = X + M := by unfold wrap64; omega
    clear HBAD hE2 hX hY
    go_enter Try.func41, Try.ntmps41
    go_wp2_with fail
    go_quiet (fail)
    go_wp2
    exact bodyPost_ret (v := ftV X (X + M) 0) (by simp [results, Try.results41, go_sem]) rfl ⟨by rw [Int.mul_one], below_drewK (hbe.out _) _⟩

theorem numB_bd {p : Pr} (hp : ∀ a, 0 ≤ p.B a ∧ p.B a ≤ 255) (f : Nat) : ∀ k, 0 ≤ numB p f k ∧ numB p f k < 256 ^ k
  | 0 => by simp [numB]
  | k + 1 => by
    have ih := numB_bd hp f k
    have hb := hp (f + k)
    have hp' : (0 : Int) < 256 ^ k := Int.pow_pos (by decide)
    have h1 : 0 ≤ p.B (f + k) * 256 ^ k := Int.mul_nonneg hb.1 (by omega)
    have h2 : p.B (f + k) * 256 ^ k ≤ 255 * 256 ^ k := Int.mul_le_mul_of_nonneg_right hb.2 (by omega)
    have h3 : (256 : Int) ^ (k + 1) = 256 ^ k * 256 := Int.pow_succ ..
    simp only [numB]
    omega

end Go.Proofs.Ytbiipnojhjhejaa

/- The contracts of flat.touched and of flat.process.mark, store and load. -/
import Derived.Test.YtlhmfbkpmfofiaiFlat7
namespace Go.Proofs.Ytlhmfbkpmfofiai
set_option maxRecDepth 100000
open Go.RowKit
set_option linter.unusedSimpArgs false
set_option linter.unusedVariables false

/-- From, to, and an error, as they are returned. -/
abbrev ftV (f t e : Int) : Value := .tuple #[.int .i64 f, .int .i64 t, .int .i64 e]

set_option maxHeartbeats 3200000 in
theorem touched_any (o : O12) (hw : bdI o.count) (hs : bdI o.size) (w : World) :
    Calls Try.prog 31 #[opV o] w fun e w' => e = .returned (ftV (if tchE o = 0 then o.addr else 0) (if tchE o = 0 then o.addr + tMany o * tEach o else 0) (tchE o)) ∧ Below w.heap.size w w' := by
  have hbe : Hid (∀ o, Below w.heap.size w (w.alloc o)) := fun o => (Below.refl _ _).alloc (Nat.le_refl _) _
  have hE : Hid (tchE o = if o.tag < 0 ∨ 15 < o.tag ∨ tMany o < 1 ∨ tMost o < tMany o then 2 else if o.addr < 0 ∨ 4096 - tMany o * tEach o < o.addr ∨ o.addr % tEach o ≠ 0 then 2 else 0) := rfl
  obtain ⟨X, hX⟩ : ∃ X, Hid (X = if tchE o = 0 then o.addr else 0) := ⟨_, rfl⟩
  obtain ⟨Y, hY⟩ : ∃ Y, Hid (Y = if tchE o = 0 then o.addr + tMany o * tEach o else 0) := ⟨_, rfl⟩
  rw [← hX.out, ← hY.out]
  have hM : Hid (tMany o = if o.kind = 13 then o.count else o.size) := rfl
  have hO : Hid (tMost o = if o.kind = 13 then 256 else 4) := rfl
  have hA : Hid (tEach o = if o.kind = 13 then 16 else 1) := rfl
  generalize tchE o = E at *
  generalize tMany o = M at *
  generalize tMost o = O at *
  generalize tEach o = A at *
  obtain ⟨kind, proc, page, count, rights, key, tagged, draw, addr, size, value, tag⟩ := o
  simp only at hE hX hY hM hO hA hw hs ⊢
  obtain ⟨hw1, hw2⟩ := hw
  obtain ⟨hs1, hs2⟩ := hs
  have HBAD : Hid (E = 2 → X = 0 ∧ Y = 0) := fun he => ⟨by rw [hX.out, if_neg (by omega)], by rw [hY.out, if_neg (by omega)]⟩
  by_cases hk : kind = 13
  · subst hk
    obtain rfl : M = count := hM.out.trans (if_pos rfl)
    obtain rfl : O = 256 := hO.out.trans (if_pos rfl)
    obtain rfl : A = 16 := hA.out.trans (if_pos rfl)
    clear hM hO hA
    by_cases h : tag < 0
    · obtain rfl : E = 2 := hE.out.trans (if_pos (Or.inl h))
      obtain ⟨rfl, rfl⟩ := HBAD.out (by first | rfl | trivial)
      clear HBAD hE hX hY
      go_enter Try.func31, Try.ntmps31
      go_wp2
      exact bodyPost_ret (v := ftV 0 0 2) (by simp [results, Try.results31, go_sem]) rfl ⟨rfl, hbe.out _⟩
    have n0 := h
    clear h
    by_cases h : 15 < tag
    · obtain rfl : E = 2 := hE.out.trans (if_pos (Or.inr (Or.inl h)))
      obtain ⟨rfl, rfl⟩ := HBAD.out (by first | rfl | trivial)
      clear HBAD hE hX hY
      go_enter Try.func31, Try.ntmps31
      go_wp2
      exact bodyPost_ret (v := ftV 0 0 2) (by simp [results, Try.results31, go_sem]) rfl ⟨rfl, hbe.out _⟩
    have n404 := h
    clear h
    by_cases h : M < 1
    · obtain rfl : E = 2 := hE.out.trans (if_pos (Or.inr (Or.inr (Or.inl h))))
      obtain ⟨rfl, rfl⟩ := HBAD.out (by first | rfl | trivial)
      clear HBAD hE hX hY
      go_enter Try.func31, Try.ntmps31
      go_wp2
      exact bodyPost_ret (v := ftV 0 0 2) (by simp [results, Try.results31, go_sem]) rfl ⟨rfl, hbe.out _⟩
    have n820 := h
    clear h
    by_cases h : 256 < M
    · obtain rfl : E = 2 := hE.out.trans (if_pos (Or.inr (Or.inr (Or.inr h))))
      obtain ⟨rfl, rfl⟩ := HBAD.out (by first | rfl | trivial)
      clear HBAD hE hX hY
      go_enter Try.func31, Try.ntmps31
      go_wp2
      exact bodyPost_ret (v := ftV 0 0 2) (by simp [results, Try.results31, go_sem]) rfl ⟨rfl, hbe.out _⟩
    have n1242 := h
    clear h
    have hE2 : Hid (E = if addr < 0 ∨ 4096 - M * 16 < addr ∨ addr % 16 ≠ 0 then 2 else 0) := hE.out.trans (if_neg (by omega))
    clear hE
    have e1 : wrap64 (M * 16) = M * 16 := by unfold wrap64; omega
    have e2 : wrap64 (4096 - M * 16) = 4096 - M * 16 := by unfold wrap64; omega
    by_cases h : addr < 0
    · obtain rfl : E = 2 := hE2.out.trans (if_pos (Or.inl h))
      obtain ⟨rfl, rfl⟩ := HBAD.out (by first | rfl | trivial)
      clear HBAD hE2 hX hY
      go_enter Try.func31, Try.ntmps31
      go_wp2
      exact bodyPost_ret (v := ftV 0 0 2) (by simp [results, Try.results31, go_sem]) rfl ⟨rfl, hbe.out _⟩
    have a1 := h
    clear h
    by_cases h : 4096 - M * 16 < addr
    · obtain rfl : E = 2 := hE2.out.trans (if_pos (Or.inr (Or.inl (by omega))))
      obtain ⟨rfl, rfl⟩ := HBAD.out (by first | rfl | trivial)
      clear HBAD hE2 hX hY
      go_enter Try.func31, Try.ntmps31
      go_wp2
      exact bodyPost_ret (v := ftV 0 0 2) (by simp [results, Try.results31, go_sem]) rfl ⟨rfl, hbe.out _⟩
    have a2 := h
    clear h
    have et : addr.tmod 16 = addr % 16 := Int.tmod_eq_emod_of_nonneg (by omega)
    by_cases h : addr % 16 = 0
    case neg =>
      obtain rfl : E = 2 := hE2.out.trans (if_pos (Or.inr (Or.inr h)))
      have hd : (addr % 16 != 0) = true := by simpa using h
      obtain ⟨rfl, rfl⟩ := HBAD.out (by first | rfl | trivial)
      clear HBAD hE2 hX hY
      go_enter Try.func31, Try.ntmps31
      go_wp2
      exact bodyPost_ret (v := ftV 0 0 2) (by simp [results, Try.results31, go_sem]) rfl ⟨rfl, hbe.out _⟩
    obtain rfl : E = 0 := hE2.out.trans (if_neg (by omega))
    obtain rfl := hX.out.trans (if_pos rfl)
    obtain rfl := hY.out.trans (if_pos rfl)
    have e4 : wrap64 (X + M * 16) = X + M * 16 := by unfold wrap64; omega
    clear HBAD hE2 hX hY
    go_enter Try.func31, Try.ntmps31
    go_wp2_with fail
    go_quiet (fail)
    go_wp2
    exact bodyPost_ret (v := ftV X (X + M * 16) 0) (by simp [results, Try.results31, go_sem]) rfl ⟨rfl, below_drewK (hbe.out _) _⟩
  · obtain rfl : M = size := hM.out.trans (if_neg hk)
    obtain rfl : O = 4 := hO.out.trans (if_neg hk)
    obtain rfl : A = 1 := hA.out.trans (if_neg hk)
    have hkd : (kind == 13) = false := by simpa using hk
    clear hM hO hA hk
    by_cases h : tag < 0
    · obtain rfl : E = 2 := hE.out.trans (if_pos (Or.inl h))
      obtain ⟨rfl, rfl⟩ := HBAD.out (by first | rfl | trivial)
      clear HBAD hE hX hY
      go_enter Try.func31, Try.ntmps31
      go_wp2
      exact bodyPost_ret (v := ftV 0 0 2) (by simp [results, Try.results31, go_sem]) rfl ⟨rfl, hbe.out _⟩
    have n0 := h
    clear h
    by_cases h : 15 < tag
    · obtain rfl : E = 2 := hE.out.trans (if_pos (Or.inr (Or.inl h)))
      obtain ⟨rfl, rfl⟩ := HBAD.out (by first | rfl | trivial)
      clear HBAD hE hX hY
      go_enter Try.func31, Try.ntmps31
      go_wp2
      exact bodyPost_ret (v := ftV 0 0 2) (by simp [results, Try.results31, go_sem]) rfl ⟨rfl, hbe.out _⟩
    have n404 := h
    clear h
    by_cases h : M < 1
    · obtain rfl : E = 2 := hE.out.trans (if_pos (Or.inr (Or.inr (Or.inl h))))
      obtain ⟨rfl, rfl⟩ := HBAD.out (by first | rfl | trivial)
      clear HBAD hE hX hY
      go_enter Try.func31, Try.ntmps31
      go_wp2
      exact bodyPost_ret (v := ftV 0 0 2) (by simp [results, Try.results31, go_sem]) rfl ⟨rfl, hbe.out _⟩
    have n820 := h
    clear h
    by_cases h : 4 < M
    · obtain rfl : E = 2 := hE.out.trans (if_pos (Or.inr (Or.inr (Or.inr h))))
      obtain ⟨rfl, rfl⟩ := HBAD.out (by first | rfl | trivial)
      clear HBAD hE hX hY
      go_enter Try.func31, Try.ntmps31
      go_wp2
      exact bodyPost_ret (v := ftV 0 0 2) (by simp [results, Try.results31, go_sem]) rfl ⟨rfl, hbe.out _⟩
    have n1242 := h
    clear h
    have hE2 : Hid (E = if addr < 0 ∨ 4096 - M * 1 < addr ∨ addr % 1 ≠ 0 then 2 else 0) := hE.out.trans (if_neg (by omega))
    clear hE
    have e1 : wrap64 (M * 1) = M * 1 := by unfold wrap64; omega
    have e0 : wrap64 M = M := by unfold wrap64; omega
    have e2 : wrap64 (4096 - M * 1) = 4096 - M * 1 := by unfold wrap64; omega
    have e3 : wrap64 (4096 - M) = 4096 - M := by unfold wrap64; omega
    by_cases h : addr < 0
    · obtain rfl : E = 2 := hE2.out.trans (if_pos (Or.inl h))
      obtain ⟨rfl, rfl⟩ := HBAD.out (by first | rfl | trivial)
      clear HBAD hE2 hX hY
      go_enter Try.func31, Try.ntmps31
      go_wp2
      exact bodyPost_ret (v := ftV 0 0 2) (by simp [results, Try.results31, go_sem]) rfl ⟨rfl, hbe.out _⟩
    have a1 := h
    clear h
    by_cases h : 4096 - M < addr
    · obtain rfl : E = 2 := hE2.out.trans (if_pos (Or.inr (Or.inl (by omega))))
      obtain ⟨rfl, rfl⟩ := HBAD.out (by first | rfl | trivial)
      clear HBAD hE2 hX hY
      go_enter Try.func31, Try.ntmps31
      go_wp2
      exact bodyPost_ret (v := ftV 0 0 2) (by simp [results, Try.results31, go_sem]) rfl ⟨rfl, hbe.out _⟩
    have a2 := h
    clear h
    obtain rfl : E = 0 := hE2.out.trans (if_neg (by omega))
    obtain rfl := hX.out.trans (if_pos rfl)
    obtain rfl := hY.out.trans (if_pos rfl)
    have e4 : wrap64 (X + M * 1) = X + M * 1 := by unfold wrap64; omega
    have e5 : wrap64 (X + M) = X + M := by unfold wrap64; omega
    clear HBAD hE2 hX hY
    go_enter Try.func31, Try.ntmps31
    go_wp2_with fail
    go_quiet (fail)
    go_wp2
    exact bodyPost_ret (v := ftV X (X + M) 0) (by simp [results, Try.results31, go_sem]) rfl ⟨by rw [Int.mul_one], below_drewK (hbe.out _) _⟩

/-- Tags from f to j - 1 are set. -/
def mkT (p : Pr) (f j : Nat) (x : Int) : Pr := { p with T := fun g => if f ≤ g ∧ g < j then x else p.T g }

theorem mkT_next (S : W4) (k f j : Nat) (x : Int) (hj : f ≤ j) : upd (upd S k (mkT (S k) f j x)) k { (upd S k (mkT (S k) f j x)) k with T := fun a => if a = j then x else ((upd S k (mkT (S k) f j x)) k).T a } = upd S k (mkT (S k) f (j + 1) x) := by
  funext i
  by_cases hi : i = k
  · subst hi
    simp only [upd_at, mkT]
    congr 1
    funext a
    by_cases h1 : a = j
    · rw [if_pos h1, if_pos (by omega)]
    · rw [if_neg h1]
      by_cases h2 : f ≤ a ∧ a < j
      · rw [if_pos h2, if_pos (by omega)]
      · rw [if_neg h2, if_neg (by omega)]
  · rw [upd_ne hi, upd_ne hi, upd_ne hi]

theorem mkT_none (S : W4) (k f : Nat) (x : Int) : upd S k (mkT (S k) f f x) = S := by
  have : mkT (S k) f f x = S k := by
    unfold mkT
    have : (fun g => if f ≤ g ∧ g < f then x else (S k).T g) = (S k).T := by
      funext g
      rw [if_neg (by omega)]
    rw [this]
  rw [this, upd_self]

set_option maxHeartbeats 1600000 in
theorem mark_any (base g : Nat) (S : W4) (k : Nat) (hk : k < 4) (f t : Nat) (hft : f ≤ t) (ht : t ≤ 4096) (x : Int) (w : World) (h : WOK base g w S) :
    Calls Try.prog 33 #[.pointer (some ⟨g, k * 4362, none⟩), .int .i64 f, .int .i64 t, .int .i64 x] w fun e w' => (∃ v, e = .returned v) ∧ WOK base g w' (upd S k (mkT (S k) (f / 16) (t / 16) x)) ∧ Spare g w w' := by
  have hm : f / 16 ≤ t / 16 := Nat.div_le_div_right hft
  have e1 : wrap64 ((f : Int) / 16) = ((f / 16 : Nat) : Int) := by unfold wrap64; omega
  have e2 : wrap64 ((t : Int) / 16) = ((t / 16 : Nat) : Int) := by unfold wrap64; omega
  have hn : t / 16 ≤ 256 := by omega
  obtain ⟨F, hF⟩ : ∃ F, F = f / 16 := ⟨_, rfl⟩
  obtain ⟨T, hT⟩ : ∃ T, T = t / 16 := ⟨_, rfl⟩
  rw [← hF] at e1 hm ⊢
  rw [← hT] at e2 hm hn ⊢
  clear hF hT hft ht
  have H0 : Hid (WOK base g w (upd S k (mkT (S k) F F x))) := by rw [mkT_none]; exact h
  have hg := h.glt
  clear h
  go_enter Try.func33, Try.ntmps33
  go_wp2_with fail
  go_loopw [8] (fun i wr => ∃ j : Nat, F ≤ j ∧ j ≤ T ∧ i = .int .i64 j ∧ Hid (WOK base g wr (upd S k (mkT (S k) F j x))) ∧ Hid (Spare g w wr)) (fun i _ => T - (intOf i).toNat)
  case atStart => exact ⟨F, Nat.le_refl _, hm, (by first | rfl | go_num), H0.out, Spare.refl _ _⟩
  case round =>
    obtain ⟨j, hj, hjT, rfl, hwk, hsp⟩ := hrel
    by_cases hlt : j < T
    · have hcl := hwk.out.tag hk (t := j) (by omega)
      have hfr := hwk.out.free (k * 4362 + 4106 + j)
      have HN : Hid (WOK base g (wr.setCell ⟨g, k * 4362 + 4106 + j, none⟩ (.int .i64 x)) (upd S k (mkT (S k) F (j + 1) x)) ∧ Spare g w (wr.setCell ⟨g, k * 4362 + 4106 + j, none⟩ (.int .i64 x))) := by
        refine ⟨?_, hsp.out.set _ _⟩
        rw [← mkT_next S k F j x hj]
        exact hwk.out.setTag hk (by omega) x
      go_wp2
      go_roundw
      case rel => exact ⟨j + 1, by omega, by omega, by go_num, HN.out.1, HN.out.2⟩
      case measure => simp [intOf]; omega
    · obtain rfl : j = T := by omega
      go_wp2
      go_end0
      exact ⟨⟨_, rfl⟩, hwk.out, hsp.out⟩

/-- The lowest j bytes of v are laid from f on. -/
def stB (p : Pr) (f j : Nat) (v : Int) : Pr := { p with B := fun a => if f ≤ a ∧ a < j then byteK v (a - f) else p.B a }

theorem stB_next (S : W4) (k f j : Nat) (v : Int) (hj : f ≤ j) : upd (upd S k (stB (S k) f j v)) k { (upd S k (stB (S k) f j v)) k with B := fun a => if a = j then byteK v (j - f) else ((upd S k (stB (S k) f j v)) k).B a } = upd S k (stB (S k) f (j + 1) v) := by
  funext i
  by_cases hi : i = k
  · subst hi
    simp only [upd_at, stB]
    congr 1
    funext a
    by_cases h1 : a = j
    · rw [if_pos h1, if_pos (by omega), h1]
    · rw [if_neg h1]
      by_cases h2 : f ≤ a ∧ a < j
      · rw [if_pos h2, if_pos (by omega)]
      · rw [if_neg h2, if_neg (by omega)]
  · rw [upd_ne hi, upd_ne hi, upd_ne hi]

theorem stB_none (S : W4) (k f : Nat) (v : Int) : upd S k (stB (S k) f f v) = S := by
  have : stB (S k) f f v = S k := by
    unfold stB
    have : (fun a => if f ≤ a ∧ a < f then byteK v (a - f) else (S k).B a) = (S k).B := by
      funext g
      rw [if_neg (by omega)]
    rw [this]
  rw [this, upd_self]

theorem div_next (v : Int) (k : Nat) : v / 256 ^ k / 256 = v / 256 ^ (k + 1) := by
  rw [Int.pow_succ, Int.ediv_ediv_of_nonneg (by have : (0 : Int) < 256 ^ k := Int.pow_pos (by decide); omega)]

set_option maxHeartbeats 1600000 in
theorem store_any (base g : Nat) (S : W4) (k : Nat) (hk : k < 4) (f t : Nat) (hft : f ≤ t) (ht : t ≤ 4096) (v : Int) (w : World) (h : WOK base g w S) :
    Calls Try.prog 34 #[.pointer (some ⟨g, k * 4362, none⟩), .int .i64 f, .int .i64 t, .int .i64 v] w fun e w' => (∃ v, e = .returned v) ∧ WOK base g w' (upd S k (stB (S k) f t v)) ∧ Spare g w w' := by
  have H0 : Hid (WOK base g w (upd S k (stB (S k) f f v))) := by rw [stB_none]; exact h
  have hg := h.glt
  clear h
  go_enter Try.func34, Try.ntmps34
  go_wp2_with fail
  go_loopw [3, 8] (fun q i wr => ∃ (j : Nat) (X : Int), f ≤ j ∧ j ≤ t ∧ q = .int .i64 X ∧ i = .int .i64 j ∧ Hid (X = v / 256 ^ (j - f)) ∧ Hid (WOK base g wr (upd S k (stB (S k) f j v))) ∧ Hid (Spare g w wr)) (fun _ i _ => t - (intOf i).toNat)
  case atStart => exact ⟨f, v, Nat.le_refl _, hft, rfl, rfl, by show _ = _; rw [Nat.sub_self, Int.pow_zero, Int.ediv_one], H0.out, Spare.refl _ _⟩
  case round =>
    obtain ⟨j, X, hj, hjT, rfl, rfl, hX, hwk, hsp⟩ := hrel
    by_cases hlt : j < t
    · have hcl := hwk.out.byte hk (a := j) (by omega)
      have hfr := hwk.out.free (k * 4362 + 10 + j)
      have HN : Hid (WOK base g (wr.setCell ⟨g, k * 4362 + 10 + j, none⟩ (.int .u8 (X % 256))) (upd S k (stB (S k) f (j + 1) v)) ∧ Spare g w (wr.setCell ⟨g, k * 4362 + 10 + j, none⟩ (.int .u8 (X % 256)))) := by
        refine ⟨?_, hsp.out.set _ _⟩
        rw [← stB_next S k f j v hj, show X % 256 = byteK v (j - f) by rw [hX.out]; rfl]
        exact hwk.out.setByte hk (by omega) _
      have HXN : Hid (X / 256 = v / 256 ^ (j + 1 - f)) := by show _ = _; rw [hX.out, div_next, show j + 1 - f = j - f + 1 by omega]
      go_wp2
      go_roundw
      case rel => exact ⟨j + 1, X / 256, by omega, by omega, by go_num, by go_num, HXN.out, HN.out.1, HN.out.2⟩
      case measure => simp [intOf]; omega
    · obtain rfl : j = t := by omega
      go_wp2
      go_end0
      exact ⟨⟨_, rfl⟩, hwk.out, hsp.out⟩

theorem numB_bd {p : Pr} (hp : ∀ a, 0 ≤ p.B a ∧ p.B a ≤ 255) (f : Nat) : ∀ k, 0 ≤ numB p f k ∧ numB p f k < 256 ^ k
  | 0 => by simp [numB]
  | k + 1 => by
    have ih := numB_bd hp f k
    have hb := hp (f + k)
    have hp' : (0 : Int) < 256 ^ k := Int.pow_pos (by decide)
    have h1 : 0 ≤ p.B (f + k) * 256 ^ k := Int.mul_nonneg hb.1 (by omega)
    have h2 : p.B (f + k) * 256 ^ k ≤ 255 * 256 ^ k := Int.mul_le_mul_of_nonneg_right hb.2 (by omega)
    have h3 : (256 : Int) ^ (k + 1) = 256 ^ k * 256 := Int.pow_succ ..
    simp only [numB]
    omega

set_option maxHeartbeats 1600000 in
theorem load_any (base g : Nat) (S : W4) (k : Nat) (hk : k < 4) (f n : Nat) (hn : 0 < n) (hn4 : n ≤ 4) (ht : f + n ≤ 4096) (w : World) (h : WOK base g w S) (hi : Inv S) :
    Calls Try.prog 35 #[.pointer (some ⟨g, k * 4362, none⟩), .int .i64 f, .int .i64 ((f : Int) + n)] w fun e w' => e = .returned (.int .i64 (numB (S k) f n)) ∧ Below w.heap.size w w' := by
  have s1 := fun w => slice_bytes w g (k * 4362 + 10) f n hn ht (f : Int) ((f : Int) + n) rfl (by omega)
  have hby := (hi.1 k).byt
  have hg := h.glt
  go_enter Try.func35, Try.ntmps35
  go_wp2_with fail
  go_loopw [7, 17] (fun v i wr => ∃ j : Nat, j ≤ n ∧ i = .int .i64 j ∧ v = .int .i64 (numB (S k) f j) ∧ Below w.heap.size w wr) (fun _ i _ => n - (intOf i).toNat)
  case atStart => exact ⟨0, Nat.zero_le _, rfl, rfl, Below.refl _ _⟩
  case round =>
    obtain ⟨j, hj, rfl, rfl, hbel⟩ := hrel
    by_cases hlt : j < n
    · have hck := (h.below hbel).byte hk (a := f + j) (by omega)
      rw [← Nat.add_assoc] at hck
      have hz := hby (f + j)
      have hb := numB_bd hby f j
      have ew : wrap64 ((S k).B (f + j)) = (S k).B (f + j) := by unfold wrap64; omega
      have HS : Hid (bits .or .i64 (numB (S k) f j) (wrap64 ((S k).B (f + j) * 2 ^ (8 * j))) = numB (S k) f (j + 1)) := by
        have := or_step (numB (S k) f j) ((S k).B (f + j)) j (by omega) hb.1 hb.2 hz.1 hz.2
        rw [ew] at this
        exact this
      clear hb hby
      go_wp2
      go_roundw
      case rel =>
        refine ⟨j + 1, by omega, by go_num, ?_, hbel⟩
        rw [← HS.out]
      case measure => simp [intOf]; omega
    · obtain rfl : j = n := by omega
      go_wp2
      go_ret
      exact ⟨rfl, hbel⟩

end Go.Proofs.Ytlhmfbkpmfofiai

/- The contracts of slices.IndexFunc and slices.ContainsFunc at api.Region, the test the closure of place.isFree. -/
import Derived.Test.YtbiipnojhjhejaaJReg1
import Derived.Test.YtbiipnojhjhejaaJMath
namespace Go.Proofs.Ytbiipnojhjhejaa
set_option maxRecDepth 100000
open Go.RowKit
set_option linter.unusedSimpArgs false
set_option linter.unusedVariables false

theorem rany_succ (p : R6 → Bool) (l : List R6) (k : Nat) (hk : k < l.length) : (l.take (k + 1)).any p = ((l.take k).any p || p (l.getD k zR)) := by
  rw [List.take_add_one, List.getElem?_eq_getElem hk, List.getD_eq_getElem?_getD, List.getElem?_eq_getElem hk, List.any_append]
  simp

theorem rany_found {p : R6 → Bool} {l : List R6} {k : Nat} (hk : k < l.length) (hf : p (l.getD k zR) = true) : l.any p = true := by
  rw [List.getD_eq_getElem?_getD, List.getElem?_eq_getElem hk] at hf
  exact List.any_eq_true.2 ⟨l[k], List.getElem_mem hk, hf⟩

set_option maxHeartbeats 800000 in
theorem rindex_any (caps : Array Value) (p : R6 → Bool) (v : Value) (l : List R6) (B : Nat) (w : World) (h : IsRecs encR B w v l) (hB : B ≤ 4398046511104)
    (hp : ∀ w1 x y z u c d, Below w.heap.size w w1 → Calls Try.prog 93 (#[.agg #[.int .i64 x, .int .i64 y, .int .i64 z, .int .i64 u, .bool c, .bool d]] ++ caps) w1 fun e w' => e = .returned (.bool (p (x, y, z, u, c, d))) ∧ Below w1.heap.size w1 w') :
    Calls Try.prog 85 #[v, .func (.func 93) #[] caps] w fun e w' => ∃ r : Int, e = .returned (.int .i64 r) ∧ decide (0 ≤ r) = l.any p ∧ Below w.heap.size w w' := by
  have HPP : Hid (∀ w1 x y z u c d, Below w.heap.size w w1 → Calls Try.prog 93 (#[.agg #[.int .i64 x, .int .i64 y, .int .i64 z, .int .i64 u, .bool c, .bool d]] ++ caps) w1 fun e w' => e = .returned (.bool (p (x, y, z, u, c, d))) ∧ Below w1.heap.size w1 w') := hp
  clear hp
  obtain ⟨a, cap, rfl, h1, hl, hc'⟩ := h
  obtain ⟨n, hn⟩ : ∃ n, Hid (n = l.length) := ⟨_, rfl⟩
  rw [← hn.out] at hl hc' ⊢
  go_enter Try.func85, Try.ntmps85
  go_wp2_with fail
  go_loopw [8] (fun i wr => ∃ k : Nat, k ≤ n ∧ i = .int .i64 k ∧ Hid ((l.take k).any p = false) ∧ Below w.heap.size w wr) (fun i _ => n - (intOf i).toNat)
  case atStart => exact ⟨0, Nat.zero_le _, rfl, by simp [Hid], Below.refl _ _⟩
  case round =>
    obtain ⟨k, hk, rfl, hno, hbel⟩ := hrel
    by_cases hlt : k < n
    · obtain ⟨b, off, rfl, hc⟩ := hc' (by omega)
      have hkl : k < l.length := by rw [← hn.out]; exact hlt
      have HT : Hid _ := rany_succ p l k hkl
      have HI : Hid _ := rany_found (p := p) (l := l) hkl
      obtain ⟨⟨x, y, z, u, c, d⟩, hp⟩ : ∃ q, q = l.getD k zR := ⟨_, rfl⟩
      obtain ⟨hk0, hk1, hk2, hk3, hk4, hk5⟩ := cell6 hc hbel k hkl hp
      rw [← hp] at HT HI
      clear hp hkl
      obtain ⟨T, hT⟩ : ∃ T, Hid (p (x, y, z, u, c, d) = T) := ⟨_, rfl⟩
      have HC : Hid (Calls Try.prog 93 (#[.agg #[.int .i64 x, .int .i64 y, .int .i64 z, .int .i64 u, .bool c, .bool d]] ++ caps) wr fun e w' => e = .returned (.bool T) ∧ Below wr.heap.size wr w') := by
        have := HPP.out wr x y z u c d hbel
        rw [hT.out] at this
        exact this
      rw [hT.out] at HI HT
      cases T with
      | true =>
        go_wp2_with (go_at_call 93; refine (HC.out).mono ?_; rintro e w2 ⟨rfl, hw2⟩)
        go_ret
        refine ⟨_, rfl, ?_, hbel.trans (hw2.mono hbel.size)⟩
        rw [HI.out (by first | rfl | trivial)]
        simp
      | false =>
        go_wp2_with (go_at_call 93; refine (HC.out).mono ?_; rintro e w2 ⟨rfl, hw2⟩)
        go_roundw
        case rel => exact ⟨k + 1, by omega, by go_num, by show _ = _; rw [HT.out, hno.out]; rfl, hbel.trans (hw2.mono hbel.size)⟩
        case measure => simp [intOf]; omega
    · go_wp2
      go_ret
      have := hno.out
      rw [List.take_of_length_le (by rw [← hn.out]; omega)] at this
      exact ⟨_, rfl, by rw [this]; rfl, hbel⟩

set_option maxHeartbeats 800000 in
theorem rcontains_any (caps : Array Value) (p : R6 → Bool) (v : Value) (l : List R6) (B : Nat) (w : World) (h : IsRecs encR B w v l) (hB : B ≤ 4398046511104)
    (hp : ∀ w1 x y z u c d, Below w.heap.size w w1 → Calls Try.prog 93 (#[.agg #[.int .i64 x, .int .i64 y, .int .i64 z, .int .i64 u, .bool c, .bool d]] ++ caps) w1 fun e w' => e = .returned (.bool (p (x, y, z, u, c, d))) ∧ Below w1.heap.size w1 w') :
    Calls Try.prog 69 #[v, .func (.func 93) #[] caps] w fun e w' => e = .returned (.bool (l.any p)) ∧ Below w.heap.size w w' := by
  have HI : Hid (Calls Try.prog 85 #[v, .func (.func 93) #[] caps] w fun e w' => ∃ r : Int, e = .returned (.int .i64 r) ∧ decide (0 ≤ r) = l.any p ∧ Below w.heap.size w w') := rindex_any caps p v l B w h hB hp
  obtain ⟨a, cap, rfl⟩ := h.form
  generalize l.any p = R at *
  clear h hp
  go_enter Try.func69, Try.ntmps69
  go_wp2_with fail
  refine HI.out.mono ?_
  rintro e w2 ⟨i, rfl, hi, hw2⟩
  have HH : Hid _ := hi
  clear hi
  go_wp2
  go_ret
  exact ⟨ret_bool HH.out, hw2⟩

end Go.Proofs.Ytbiipnojhjhejaa

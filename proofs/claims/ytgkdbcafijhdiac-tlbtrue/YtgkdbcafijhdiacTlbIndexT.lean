/- The contracts of slices.IndexFunc and slices.ContainsFunc at api.Cached, the test a closure of the statement's. -/
import Derived.Test.YtgkdbcafijhdiacTlb6
namespace Go.Proofs.Ytgkdbcafijhdiac
open Go.RowKit
set_option linter.unusedSimpArgs false
set_option linter.unusedVariables false

set_option maxHeartbeats 800000 in
theorem cindex_any (caps : Array Value) (p : C4 → Bool) (v : Value) (l : List C4) (w : World) (h : IsRecs encC 4398046511000 w v l)
    (hp : ∀ w1 x y z u, Below w.heap.size w w1 → Calls Try.prog 23 (#[.agg #[.int .i64 x, .int .i64 y, .int .i64 z, .int .i64 u]] ++ caps) w1 fun e w' => e = .returned (.bool (p (x, y, z, u))) ∧ Below w1.heap.size w1 w') :
    Calls Try.prog 36 #[v, .func (.func 23) #[] caps] w fun e w' => e = .returned (.int .i64 (idxP p l)) ∧ Below w.heap.size w w' := by
  have HPP : Hid (∀ w1 x y z u, Below w.heap.size w w1 → Calls Try.prog 23 (#[.agg #[.int .i64 x, .int .i64 y, .int .i64 z, .int .i64 u]] ++ caps) w1 fun e w' => e = .returned (.bool (p (x, y, z, u))) ∧ Below w1.heap.size w1 w') := hp
  clear hp
  obtain ⟨a, cap, rfl, h1, hl, hc'⟩ := h
  obtain ⟨n, hn⟩ : ∃ n, Hid (n = l.length) := ⟨_, rfl⟩
  rw [← hn.out] at hl hc' ⊢
  go_enter Try.func36, Try.ntmps36
  go_wp2_with fail
  go_loopw [8] (fun i wr => ∃ k : Nat, k ≤ n ∧ i = .int .i64 k ∧ Hid ((l.take k).any p = false) ∧ Below w.heap.size w wr) (fun i _ => n - (intOf i).toNat)
  case atStart => exact ⟨0, Nat.zero_le _, rfl, by simp [Hid], Below.refl _ _⟩
  case round =>
    obtain ⟨k, hk, rfl, hno, hbel⟩ := hrel
    by_cases hlt : k < n
    · obtain ⟨b, off, rfl, hc⟩ := hc' (by omega)
      have HT : Hid _ := any_succ p l k (by rw [← hn.out]; exact hlt)
      have HI : Hid _ := fun hf => idxP_found (p := p) (l := l) (k := k) (by rw [← hn.out]; exact hlt) hno.out hf
      obtain ⟨⟨x, y, z, u⟩, hp⟩ : ∃ q, q = l.getD k (0, 0, 0, 0) := ⟨_, rfl⟩
      obtain ⟨hk0, hk1, hk2, hk3⟩ := cell4 hc hbel k (by rw [← hn.out]; exact hlt) hp
      rw [← hp] at HT HI
      clear hp
      obtain ⟨T, hT⟩ : ∃ T, Hid (p (x, y, z, u) = T) := ⟨_, rfl⟩
      have HC : Hid (Calls Try.prog 23 (#[.agg #[.int .i64 x, .int .i64 y, .int .i64 z, .int .i64 u]] ++ caps) wr fun e w' => e = .returned (.bool T) ∧ Below wr.heap.size wr w') := by
        have := HPP.out wr x y z u hbel
        rw [hT.out] at this
        exact this
      rw [hT.out] at HI HT
      cases T with
      | true =>
        go_wp2_with (go_at_call 23; refine (HC.out).mono ?_; rintro e w2 ⟨rfl, hw2⟩)
        go_ret
        exact ⟨ret_int (HI.out (by first | rfl | trivial)).symm, hbel.trans (hw2.mono hbel.size)⟩
      | false =>
        go_wp2_with (go_at_call 23; refine (HC.out).mono ?_; rintro e w2 ⟨rfl, hw2⟩)
        go_roundw
        case rel => exact ⟨k + 1, by omega, by go_num, by show _ = _; rw [HT.out, hno.out]; rfl, hbel.trans (hw2.mono hbel.size)⟩
        case measure => simp [intOf]; omega
    · go_wp2
      go_ret
      refine ⟨ret_int ?_, hbel⟩
      have := hno.out
      rw [List.take_of_length_le (by rw [← hn.out]; omega)] at this
      rw [idxP_none this]

set_option maxHeartbeats 800000 in
theorem ccontains_any (caps : Array Value) (p : C4 → Bool) (v : Value) (l : List C4) (w : World) (h : IsRecs encC 4398046511000 w v l)
    (hp : ∀ w1 x y z u, Below w.heap.size w w1 → Calls Try.prog 23 (#[.agg #[.int .i64 x, .int .i64 y, .int .i64 z, .int .i64 u]] ++ caps) w1 fun e w' => e = .returned (.bool (p (x, y, z, u))) ∧ Below w1.heap.size w1 w') :
    Calls Try.prog 22 #[v, .func (.func 23) #[] caps] w fun e w' => e = .returned (.bool (l.any p)) ∧ Below w.heap.size w w' := by
  have HI : Hid (Calls Try.prog 36 #[v, .func (.func 23) #[] caps] w fun e w' => e = .returned (.int .i64 (idxP p l)) ∧ Below w.heap.size w w') := cindex_any caps p v l w h hp
  have HP : Hid _ := idxP_pos p l
  obtain ⟨a, cap, rfl⟩ := h.form
  generalize idxP p l = i at HI HP
  clear h hp
  go_enter Try.func22, Try.ntmps22
  go_wp2_with (go_at_call 36; refine (HI.out).mono ?_; rintro e w2 ⟨rfl, hw2⟩)
  go_ret
  exact ⟨ret_bool HP.out, hw2⟩

end Go.Proofs.Ytgkdbcafijhdiac

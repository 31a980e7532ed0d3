/- The walk of FlatSealed: what is sealed stays. -/
import Derived.Test.YtbiipnojhjhejaaFlatConcat
namespace Go.Proofs.Ytbiipnojhjhejaa
set_option maxRecDepth 100000
open Go.RowKit
set_option linter.unusedSimpArgs false
set_option linter.unusedVariables false

theorem oany_succ (p : O12 → Bool) (l : List O12) (k : Nat) (hk : k < l.length) : (l.take (k + 1)).any p = ((l.take k).any p || p (l.getD k zO)) := by
  rw [List.take_add_one, List.getElem?_eq_getElem hk, List.getD_eq_getElem?_getD, List.getElem?_eq_getElem hk, List.any_append]
  simp

theorem oany_found {p : O12 → Bool} {l : List O12} {k : Nat} (hk : k < l.length) (hf : p (l.getD k zO) = true) : l.any p = true := by
  rw [List.getD_eq_getElem?_getD, List.getElem?_eq_getElem hk] at hf
  exact List.any_eq_true.2 ⟨l[k], List.getElem_mem hk, hf⟩

def isX (o : O12) : Bool := decide (o.kind = 9)

set_option maxHeartbeats 400000 in
theorem exit_any (kind proc page count rights key draw addr size value tag : Int) (tagged : Bool) (w : World) :
    Calls Try.prog 16 #[.agg #[.int .i64 kind, .int .i64 proc, .int .i64 page, .int .i64 count, .int .i64 rights, .int .i64 key, .bool tagged, .int .i64 draw, .int .i64 addr, .int .i64 size, .int .i64 value, .int .i64 tag]] w fun e w' => e = .returned (.bool (decide (kind = 9))) ∧ Below w.heap.size w w' := by
  go_enter Try.func16, Try.ntmps16
  go_wp2
  go_ret
  exact ⟨ret_bool (by rw [Bool.eq_iff_iff]; simp), (Below.refl _ _).alloc (Nat.le_refl _) _⟩

set_option maxHeartbeats 800000 in
theorem oindexF_any (v : Value) (l : List O12) (w : World) (h : IsRecs encO 1466015503658 w v l) :
    Calls Try.prog 26 #[v, .func (.func 16) #[] #[]] w fun e w' => ∃ r : Int, e = .returned (.int .i64 r) ∧ decide (0 ≤ r) = l.any isX ∧ Below w.heap.size w w' := by
  obtain ⟨a, cap, rfl, h1, hl, hc'⟩ := h
  obtain ⟨n, hn⟩ : ∃ n, Hid (n = l.length) := ⟨_, rfl⟩
  rw [← hn.out] at hl hc' ⊢
  go_enter Try.func26, Try.ntmps26
  go_wp2_with fail
  go_loopw [8] (fun i wr => ∃ k : Nat, k ≤ n ∧ i = .int .i64 k ∧ Hid ((l.take k).any isX = false) ∧ Below w.heap.size w wr) (fun i _ => n - (intOf i).toNat)
  case atStart => exact ⟨0, Nat.zero_le _, rfl, by simp [Hid], Below.refl _ _⟩
  case round =>
    obtain ⟨k, hk, rfl, hno, hbel⟩ := hrel
    by_cases hlt : k < n
    · obtain ⟨b, off, rfl, hc⟩ := hc' (by omega)
      have hkl : k < l.length := by rw [← hn.out]; exact hlt
      have HT : Hid _ := oany_succ isX l k hkl
      have HI : Hid _ := oany_found (p := isX) (l := l) hkl
      obtain ⟨⟨kind, proc, page, count, rights, key, tagged, draw, addr, size, value, tag⟩, hp⟩ : ∃ q, q = l.getD k zO := ⟨_, rfl⟩
      obtain ⟨⟨k0, k1, k2, k3, k4, k5⟩, k6, k7, k8, k9, k10, k11⟩ := cell12 hc hbel k hkl hp
      rw [← hp] at HT HI
      clear hp hkl
      obtain ⟨T, hT⟩ : ∃ T, Hid (decide (kind = 9) = T) := ⟨_, rfl⟩
      have hT2 : isX ⟨kind, proc, page, count, rights, key, tagged, draw, addr, size, value, tag⟩ = T := hT.out
      have HC : Hid (Calls Try.prog 16 #[.agg #[.int .i64 kind, .int .i64 proc, .int .i64 page, .int .i64 count, .int .i64 rights, .int .i64 key, .bool tagged, .int .i64 draw, .int .i64 addr, .int .i64 size, .int .i64 value, .int .i64 tag]] wr fun e w' => e = .returned (.bool T) ∧ Below wr.heap.size wr w') := by
        have := exit_any kind proc page count rights key draw addr size value tag tagged wr
        rw [hT.out] at this
        exact this
      rw [hT2] at HI HT
      clear hT2
      cases T with
      | true =>
        go_wp2_with (go_at_call 16; refine (HC.out).mono ?_; rintro e w2 ⟨rfl, hw2⟩)
        go_ret
        refine ⟨_, rfl, ?_, hbel.trans (hw2.mono hbel.size)⟩
        rw [HI.out (by first | rfl | trivial)]
        simp
      | false =>
        go_wp2_with (go_at_call 16; refine (HC.out).mono ?_; rintro e w2 ⟨rfl, hw2⟩)
        go_roundw
        case rel => exact ⟨k + 1, by omega, by go_num, by show _ = _; rw [HT.out, hno.out]; rfl, hbel.trans (hw2.mono hbel.size)⟩
        case measure => simp [intOf]; omega
    · go_wp2
      go_ret
      have := hno.out
      rw [List.take_of_length_le (by rw [← hn.out]; omega)] at this
      exact ⟨_, rfl, by rw [this]; rfl, hbel⟩

set_option maxHeartbeats 800000 in
theorem ocontainsF_any (v : Value) (l : List O12) (w : World) (h : IsRecs encO 1466015503658 w v l) :
    Calls Try.prog 15 #[v, .func (.func 16) #[] #[]] w fun e w' => e = .returned (.bool (l.any isX)) ∧ Below w.heap.size w w' := by
  have HI : Hid (Calls Try.prog 26 #[v, .func (.func 16) #[] #[]] w fun e w' => ∃ r : Int, e = .returned (.int .i64 r) ∧ decide (0 ≤ r) = l.any isX ∧ Below w.heap.size w w') := oindexF_any v l w h
  obtain ⟨a, cap, rfl⟩ := h.form
  generalize l.any isX = R at *
  clear h
  go_enter Try.func15, Try.ntmps15
  go_wp2_with fail
  refine HI.out.mono ?_
  rintro e w2 ⟨i, rfl, hi, hw2⟩
  have HH : Hid _ := hi
  clear hi
  go_wp2
  go_ret
  exact ⟨ret_bool HH.out, hw2⟩

end Go.Proofs.Ytbiipnojhjhejaa

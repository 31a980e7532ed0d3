/- The contract of the document's own answer framewardenref.IAll: page by page. -/
import Derived.Test.YtgkniljbemkkhafRegRef4
import Derived.Test.YtgkniljbemkkhafPlace2
namespace Go.Proofs.Ytgkniljbemkkhaf
open Go.RowKit
set_option linter.unusedSimpArgs false
set_option linter.unusedVariables false

/-- How many pages All looks at. -/
def lookN (l : List R6) (c : Int) : Nat := if rightR l && decide (1 ≤ c) then (65 - c).toNat else 0

theorem all_look (l : List R6) (c : Int) : allP l c = upP l c (lookN l c) := by
  unfold allP lookN
  split
  · rfl
  · rfl

/-- A page that is no hindrance. -/
def okP (l : List R6) (q : Int) : Prop := q < 0 ∨ 63 < q ∨ atR l q = none

theorem rm_step {P : Int → Prop} {a Q : Int} (h : a ≤ Q) : (∀ q, a ≤ q → q < Q + 1 → P q) ↔ (∀ q, a ≤ q → q < Q → P q) ∧ P Q := by
  constructor
  · intro hh
    exact ⟨fun q h1 h2 => hh q h1 (by omega), hh Q h (by omega)⟩
  · rintro ⟨h1, h2⟩ q h3 h4
    by_cases he : q = Q
    · rw [he]; exact h2
    · exact h1 q h3 (by omega)

theorem rm_end {l : List R6} (hg : Good 0 none l) {p c : Int} (hc : 0 ≤ c) {R : Bool} (h : R = true ↔ ∀ q, p - 1 ≤ q → q < p + c + 1 → okP l q) : fre l (p - 1) (p + c) = R := by
  rw [Bool.eq_iff_iff, h, room_said hg hc]
  exact ⟨fun hh q h1 h2 => hh q h1 (by omega), fun hh q h1 h2 => hh q h1 (by omega)⟩

set_option maxHeartbeats 3200000 in
theorem iall_any (v : Value) (l : List R6) (c : Int) (B : Nat) (w : World) (h : IsRecs encR B w v l) (hB : B ≤ 4398046511104) (hc0 : bdI c) :
    Calls Try.prog 10 #[v, .int .i64 c] w fun e w' => ∃ v', e = .returned v' ∧ OwnR 3 1 encI w.heap.size w' v' (allP l c) ∧ Below w.heap.size w w' := by
  have HP : Hid (Calls Try.prog 20 #[v] w fun e w' => ∃ A b, e = .returned (.tuple #[.agg (ptrsL A).toArray, .bool b]) ∧ (b = true ↔ Asc 0 64 l) ∧ (b = true → Pts w' A (fun i => atR l i)) ∧ Below w.heap.size w w') := hpages_any v l B w h hB
  have HR : Hid (∀ w1, Below w.heap.size w w1 → Calls Try.prog 18 #[v] w1 fun e w' => e = .returned (.bool (rightR l)) ∧ Below w1.heap.size w1 w') := fun w1 hb => hright_any v l B w1 (h.below hb) hB
  have HG : Hid (rightR l = true → Good 0 none l) := good_of_right
  have HN0 : Hid (rightR l = false ∨ ¬ 1 ≤ c → lookN l c = 0) := by
    intro hh
    unfold lookN
    rw [if_neg]
    rcases hh with hh | hh
    · rw [hh]; simp
    · simp [hh]
  have HN1 : Hid (rightR l = true → 1 ≤ c → lookN l c = (65 - c).toNat) := by
    intro h1 h2
    unfold lookN
    rw [if_pos (by rw [h1]; simpa using h2)]
  have HNR : Hid (¬ Asc 0 64 l → rightR l = false) := not_right
  obtain ⟨i0, hi0, hz0, hz1, hz2⟩ := info_parts info_int
  rw [all_look]
  obtain ⟨va, vc, rfl⟩ := h.form
  obtain ⟨n, hn⟩ : ∃ n, Hid (n = l.length) := ⟨_, rfl⟩
  rw [← hn.out] at HP HR ⊢
  obtain ⟨b1, b2⟩ := hc0
  generalize lookN l c = N at *
  generalize hRR : rightR l = RR at *
  clear h hRR
  go_enter Try.func10, Try.ntmps10
  go_wp2_with fail
  refine HP.out.mono ?_
  rintro e w1 ⟨A, b, rfl, hb1, hb2, hw1⟩
  have HF : Hid _ := arr_facts A
  obtain ⟨X, hX⟩ : ∃ X, Hid (X = (ptrsL A).toArray) := ⟨_, rfl⟩
  have HROW : Hid (OwnRow (w1.alloc (.cells X 46)) w1.heap.size 46 (ptrsL A)) := by
    rw [hX.out]
    exact heap_alloc_new w1 _
  rw [← hX.out] at HF ⊢
  have hal : Hid (∀ o, Below w1.heap.size w1 (w1.alloc o)) := fun o => (Below.refl _ _).alloc (Nat.le_refl _) _
  have HPT : Hid (b = true → ∀ w2, Below w1.heap.size w1 w2 → Pts w2 A (fun i => atR l i)) := fun hb w2 hw2 => (hb2 hb).below hw2
  have HBF : Hid (b = false → RR = false) := fun hb => HNR.out (fun ha => by have := hb1.2 ha; rw [hb] at this; cases this)
  clear HP hb1 hb2 HNR
  go_wp2_with (refine wpList_store_row rfl 46 (.tmp 5) _ rfl w1.heap.size X rfl rfl 46 _ (heap_alloc_new w1 _) HF.out.1 (by rw [HF.out.2.1]; rfl) HF.out.2.2 ?_; rw [World.setRow_alloc_new])
  have hx1 : Below w.heap.size w (w1.alloc (.cells X 46)) := hw1.trans ((hal.out _).mono hw1.size)
  have HPT1 : Hid (b = true → Pts (w1.alloc (.cells X 46)) A (fun i => atR l i)) := fun hb => HPT.out hb _ (hal.out _)
  clear HPT
  generalize (w1.alloc (.cells X 46)) = W1 at *
  go_loopw [7, 8] (fun v i wr => ∃ p : Nat, i = .int .i64 p ∧ p ≤ N ∧ Hid (OwnR 3 1 encI W1.heap.size wr v (upP l c p)) ∧ Below W1.heap.size W1 wr) (fun _ i _ => N + 1 - (intOf i).toNat)
  case atStart => exact ⟨0, rfl, Nat.zero_le _, ownR_nil _ _ _, Below.refl _ _⟩
  case round =>
    obtain ⟨p, rfl, hp, hown, hbel⟩ := hrel
    obtain ⟨ua, uc, rfl⟩ := hown.out.form
    have hlen := upP_len l c p
    obtain ⟨acc, hacc⟩ : ∃ acc, Hid (acc = upP l c p) := ⟨_, rfl⟩
    have hbw := hbel.size
    have hxr := hx1.trans (hbel.mono hx1.size)
    cases b with
    | false =>
      have hRR := HBF.out rfl
      have hN := HN0.out (Or.inl hRR)
      have HPN : Hid (p = N) := by show _ = _; omega
      clear hN
      go_wp2
      go_ret
      exact ⟨_, rfl, by rw [← HPN.out]; exact hown.out.mono hx1.size, hx1.trans (hbel.mono hx1.size)⟩
    | true =>
      cases RR with
      | false =>
        have hN := HN0.out (Or.inl rfl)
        have HPN : Hid (p = N) := by show _ = _; omega
        clear hN
        go_wp2_with (go_at_call 18; refine (HR.out _ hxr).mono ?_; rintro e w2 ⟨rfl, hw2⟩)
        go_ret
        exact ⟨_, rfl, by rw [← HPN.out]; exact (hown.out.below hw2).mono hx1.size, hxr.trans (hw2.mono hxr.size)⟩
      | true =>
        by_cases q1 : 1 ≤ c
        · have hN := HN1.out rfl q1
          by_cases q2 : c ≤ 64
          · by_cases q3 : (p : Int) + c ≤ 64
            · have d1 : decide (c ≥ 1) = true := by simpa using q1
              have d2 : decide (c ≤ 64) = true := by simpa using q2
              have d3 : decide ((p : Int) + c ≤ 64) = true := by simpa using q3
              have HY : Hid _ := upP_yes (l := l) (c := c) (n := p)
              have HNo : Hid _ := upP_no (l := l) (c := c) (n := p)
              rw [← hacc.out] at hown hlen HY HNo ⊢
              have HL1 : Hid ((acc.length + 1) * 8 ≤ 140737488355328) := by show _ ≤ _; omega
              have HL2 : Hid (acc.length + 1 ≤ maxLen) := by show _ ≤ _; unfold maxLen; omega
              clear hlen hacc HN0 HN1 HBF
              go_wp2_with (go_at_call 18; refine (HR.out _ hxr).mono ?_; rintro e w2 ⟨rfl, hw2⟩)
              have hown2 : Hid (OwnR 3 1 encI W1.heap.size w2 (.slice ua acc.length uc) acc) := hown.out.below hw2
              have hbel2 : Hid (Below W1.heap.size W1 w2) := hbel.trans (hw2.mono hbw)
              have hrow2 : Hid (OwnRow w2 w1.heap.size 46 (ptrsL A)) := HROW.out.below hbel2.out HROW.out.lt
              have HPT2 : Hid (Pts w2 A (fun i => atR l i)) := (HPT1.out (by first | rfl | trivial)).below hbel2.out
              clear hown hbel hw2 hbw
              go_loopw [9, 10] (fun r q ws => ∃ (R : Bool) (Q : Int), r = .bool R ∧ q = .int .i64 Q ∧ (p : Int) - 1 ≤ Q ∧ Q ≤ (p : Int) + c + 1 ∧ Hid (R = true ↔ ∀ q, (p : Int) - 1 ≤ q → q < Q → okP l q) ∧ ws = w2) (fun _ q _ => ((p : Int) + c + 1 - intOf q).toNat)
              case atStart => exact ⟨true, (p : Int) - 1, rfl, by first | rfl | go_num, by omega, by omega, ⟨fun _ q h1 h2 => by omega, fun _ => rfl⟩, rfl⟩
              case round =>
                obtain ⟨R, Q, rfl, rfl, hQ1, hQ2, hR, rfl⟩ := hrel
                by_cases hQ : Q ≤ (p : Int) + c
                · have HS : Hid _ := rm_step (P := okP l) hQ1
                  cases R with
                  | false =>
                    have HF2 : Hid (false = true ↔ ∀ q, (p : Int) - 1 ≤ q → q < Q + 1 → okP l q) := by
                      show _ ↔ _
                      rw [HS.out, ← hR.out]
                      simp
                    go_wp2
                    go_roundw
                    case rel => exact ⟨false, Q + 1, rfl, by go_num, by omega, by omega, HF2, by first | rfl | trivial⟩
                    case measure => simp [intOf]; omega
                  | true =>
                    have HT2 : Hid (okP l Q → (true = true ↔ ∀ q, (p : Int) - 1 ≤ q → q < Q + 1 → okP l q)) := by
                      intro ho
                      rw [HS.out, ← hR.out]
                      simp [ho]
                    have HF2 : Hid (¬ okP l Q → (false = true ↔ ∀ q, (p : Int) - 1 ≤ q → q < Q + 1 → okP l q)) := by
                      intro ho
                      rw [HS.out, ← hR.out]
                      simp [ho]
                    by_cases z1 : Q < 0
                    · have HO : Hid _ := HT2.out (Or.inl z1)
                      go_wp2
                      go_roundw
                      case rel => exact ⟨true, Q + 1, rfl, by go_num, by omega, by omega, HO, by first | rfl | trivial⟩
                      case measure => simp [intOf]; omega
                    · by_cases z2 : 63 < Q
                      · have HO : Hid _ := HT2.out (Or.inr (Or.inl z2))
                        have d4 : decide (Q < 0) = false := by simpa using z1
                        go_wp2
                        go_roundw
                        case rel => exact ⟨true, Q + 1, rfl, by go_num, by omega, by omega, HO, by first | rfl | trivial⟩
                        case measure => simp [intOf]; omega
                      · obtain ⟨j, rfl⟩ : ∃ j : Nat, Q = j := ⟨Q.toNat, by omega⟩
                        have hj : j < 64 := by omega
                        have hcj : wr.cell? ⟨w1.heap.size, j, none⟩ = some (.pointer (A j)) := by rw [hrow2.out.cell, ptrsL_get _ _ hj]
                        have haj := HPT2.out j hj
                        have hlt1 := hrow2.out.lt
                        have d4 : decide ((j : Int) < 0) = false := by simp
                        have d5 : decide ((j : Int) > 63) = false := by simp; omega
                        cases ho : atR l (j : Int) with
                        | none =>
                          simp only [ho] at haj
                          have haj' : A j = none := haj
                          rw [haj'] at hcj
                          have HO : Hid _ := HT2.out (Or.inr (Or.inr ho))
                          clear haj haj' ho
                          go_wp2
                          go_roundw
                          case rel => exact ⟨true, (j : Int) + 1, rfl, by go_num, by omega, by omega, HO, by first | rfl | trivial⟩
                          case measure => simp [intOf]; omega
                        | some a =>
                          simp only [ho] at haj
                          obtain ⟨pb, po, haj', -⟩ := haj
                          rw [haj'] at hcj
                          have HO : Hid _ := HF2.out (by rintro (h1 | h1 | h1) <;> first | omega | (rw [ho] at h1; cases h1))
                          clear haj' ho
                          go_wp2
                          go_roundw
                          case rel => exact ⟨false, (j : Int) + 1, rfl, by go_num, by omega, by omega, HO, by first | rfl | trivial⟩
                          case measure => simp [intOf]; omega
                · obtain rfl : Q = (p : Int) + c + 1 := by omega
                  have HRE : Hid (fre l ((p : Int) - 1) ((p : Int) + c) = R) := rm_end (HG.out (by first | rfl | trivial)) (by omega) hR.out
                  cases R with
                  | true =>
                    have HU : Hid (upP l c (p + 1) = acc ++ [(p : Int)]) := HY.out HRE.out
                    go_wp2_with (at_builtin; go_must (refine wpList_append_rec shI rfl _ _ 27 3 i0 _ 8 rfl Try.underlying27 hi0 hz0 hz1 hz2 rfl W1.heap.size _ acc rfl wr hown2.out ((Below.refl _ _).alloc (Nat.le_refl _) _) hbel2.out.size HL1.out HL2.out (p : Int) _ 1 rfl (box1 wr _ rfl _ _) ?_); intro v' w3 hown3 hbw3)
                    go_roundw
                    case rel => exact ⟨p + 1, by go_num, by omega, by show OwnR _ _ _ _ _ _ _; rw [HU.out]; exact hown3, ((hbel2.out.alloc hbel2.out.size _).trans hbw3)⟩
                    case measure => simp [intOf]; omega
                  | false =>
                    have HU : Hid (upP l c (p + 1) = acc) := HNo.out HRE.out
                    go_wp2
                    go_roundw
                    case rel => exact ⟨p + 1, by go_num, by omega, by show OwnR _ _ _ _ _ _ _; rw [HU.out]; exact hown2.out, hbel2.out⟩
                    case measure => simp [intOf]; omega
            · have HPN : Hid (p = N) := by show _ = _; omega
              have q4 : (p : Int) + c ≤ 65 := by omega
              clear hN
              have d3 : decide ((p : Int) + c ≤ 64) = false := by simpa using q3
              have d2 : decide (c ≤ 64) = true := by simpa using q2
              have d1 : decide (c ≥ 1) = true := by simpa using q1
              go_wp2_with (go_at_call 18; refine (HR.out _ hxr).mono ?_; rintro e w2 ⟨rfl, hw2⟩)
              go_ret
              exact ⟨_, rfl, by rw [← HPN.out]; exact (hown.out.below hw2).mono hx1.size, hxr.trans (hw2.mono hxr.size)⟩
          · have HPN : Hid (p = N) := by show _ = _; omega
            clear hN
            have d2 : decide (c ≤ 64) = false := by simpa using q2
            have d1 : decide (c ≥ 1) = true := by simpa using q1
            go_wp2_with (go_at_call 18; refine (HR.out _ hxr).mono ?_; rintro e w2 ⟨rfl, hw2⟩)
            go_ret
            exact ⟨_, rfl, by rw [← HPN.out]; exact (hown.out.below hw2).mono hx1.size, hxr.trans (hw2.mono hxr.size)⟩
        · have hN := HN0.out (Or.inr (by omega))
          have HPN : Hid (p = N) := by show _ = _; omega
          clear hN
          have d1 : decide (c ≥ 1) = false := by simpa using q1
          go_wp2_with (go_at_call 18; refine (HR.out _ hxr).mono ?_; rintro e w2 ⟨rfl, hw2⟩)
          go_ret
          exact ⟨_, rfl, by rw [← HPN.out]; exact (hown.out.below hw2).mono hx1.size, hxr.trans (hw2.mono hxr.size)⟩

end Go.Proofs.Ytgkniljbemkkhaf

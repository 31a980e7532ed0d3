/- The contract of framewardenref.FPlay: the document's own answer is what tlb.Play answers. -/
import Derived.Test.YtgkdbcafijhdiacTlb6
namespace Go.Proofs.Ytgkdbcafijhdiac
open Go.RowKit
set_option linter.unusedSimpArgs false
set_option linter.unusedVariables false

theorem box_add' (w : World) (s : Nat) (hs : s = w.heap.size) (x y z u : Int) (t : TypeId) : ∀ j v, (encC (x, y, z, u))[j]? = some v → (w.alloc (.cells #[.int .i64 x, .int .i64 y, .int .i64 z, .int .i64 u] t)).cell? (Addr.add ⟨s, 0, none⟩ j) = some v :=
  hs ▸ box_add w x y z u t

theorem recs_tail {w : World} {g cap n : Nat} {L : List C4} (hn : n = (L.drop 1).length) (h : IsRecs encC 9 w (.slice (some ⟨g, 0, none⟩) L.length cap) L) (hl : 0 < L.length) : IsRecs encC 9 w (.slice (some ⟨g, 4, none⟩) n (cap - 1)) (L.drop 1) := by
  obtain ⟨a, c, hv, h1, h2, h3⟩ := h
  obtain ⟨b, off, rfl, hc⟩ := h3 hl
  simp only [Value.slice.injEq, Option.some.injEq, Addr.mk.injEq, and_true, true_and] at hv
  obtain ⟨⟨rfl, rfl⟩, rfl⟩ := hv
  subst hn
  refine ⟨_, _, rfl, by simp; omega, by simp; omega, fun _ => ⟨_, 4, rfl, fun j u hj => ?_⟩⟩
  have := recs_part shC hc 1 L.length j u (by rw [List.take_of_length_le (by simp)]; exact hj)
  simpa using this

set_option maxHeartbeats 3200000 in
theorem fplay_any (v : Value) (l : List C4) (w : World) (h : IsRecs encC 4398046511000 w v l) :
    Calls Try.prog 20 #[v] w fun e w' => ∃ v', e = .returned v' ∧ IsRecs encC 9 w' v' (play l) ∧ Below w.heap.size w w' := by
  obtain ⟨i0, hi0, hz0, hz1, hz2⟩ := info_parts info_cached
  obtain ⟨a0, cap, rfl, h1, hl, hc'⟩ := h
  obtain ⟨n, hn⟩ : ∃ n, Hid (n = l.length) := ⟨_, rfl⟩
  rw [← hn.out] at hl hc' ⊢
  go_enter Try.func20, Try.ntmps20
  go_wp2_with fail
  go_loopw [3, 11] (fun vo vi wr => ∃ k : Nat, k ≤ n ∧ vi = .int .i64 k ∧ Hid (IsRecs encC 9 wr vo (play (l.take k))) ∧ Below w.heap.size w wr) (fun _ i _ => n - (intOf i).toNat)
  case atStart => exact ⟨0, Nat.zero_le _, rfl, isRecs_nil _ _ _ _, Below.refl _ _⟩
  case round =>
    obtain ⟨k, hk, rfl, hout, hbel⟩ := hrel
    obtain ⟨ws, hws⟩ : ∃ ws : World, ws = wr := ⟨_, rfl⟩
    subst hws
    by_cases hlt : k < n
    · obtain ⟨b0, off, rfl, hc⟩ := hc' (by omega)
      have HP : Hid _ := play_succ l k (by rw [← hn.out]; exact hlt)
      obtain ⟨⟨a, b, c, d⟩, hp⟩ : ∃ q, q = l.getD k (0, 0, 0, 0) := ⟨_, rfl⟩
      obtain ⟨hk0, hk1, hk2, hk3⟩ := cell4 hc hbel k (by rw [← hn.out]; exact hlt) hp
      rw [← hp] at HP
      have hM8 := play_le (l.take k)
      obtain ⟨M, hM⟩ : ∃ M, M = play (l.take k) := ⟨_, rfl⟩
      rw [← hM] at hM8 HP hout
      clear hp hM hc hc'
      obtain ⟨oa, oc, rfl⟩ := hout.out.form
      obtain ⟨m, hm⟩ : ∃ m, Hid (m = M.length) := ⟨_, rfl⟩
      rw [← hm.out] at hM8 hout ⊢
      have hdk : decide ((k : Int) < (n : Int)) = true := by simpa using hlt
      go_wp2_with fail
      have hbW : Below ws.heap.size ws (ws.alloc (.cells #[.int .i64 a, .int .i64 b, .int .i64 c, .int .i64 d] 40)) := (Below.refl _ _).alloc (Nat.le_refl _) _
      have hqr : OwnRow (ws.alloc (.cells #[.int .i64 a, .int .i64 b, .int .i64 c, .int .i64 d] 40)) ws.heap.size 40 (encC (a, b, c, d)) := heap_alloc_new ws _
      generalize (ws.alloc (.cells #[.int .i64 a, .int .i64 b, .int .i64 c, .int .i64 d] 40)) = W1 at hbW hqr ⊢
      have hout1 := hout.out.below hbW
      obtain ⟨oa', oc', hov, -, -, hoc⟩ := hout1
      simp only [Value.slice.injEq] at hov
      obtain ⟨rfl, -, rfl⟩ := hov
      have HQ : Hid (OwnRow W1 ws.heap.size 40 (encC (a, b, c, d))) := hqr
      have hqlt := hqr.lt
      clear hqr hk0 hk1 hk2 hk3
      go_loopw [6, 17] (fun vn vj w2 => ∃ j : Nat, j ≤ m ∧ vj = .int .i64 j ∧ Hid (OwnR 40 4 encC W1.heap.size w2 vn (fgt (M.take j) (a, b, c, d))) ∧ Below W1.heap.size W1 w2) (fun _ i _ => m - (intOf i).toNat)
      case atStart => exact ⟨0, Nat.zero_le _, rfl, by simp only [List.take_zero]; exact ownR_nil _ _ _, Below.refl _ _⟩
      case round =>
        obtain ⟨j, hj, rfl, hown, hb1⟩ := hrel
        have hs1 := hb1.size
        obtain ⟨c0, c1, c2, c3⟩ := (HQ.out.below hb1 HQ.out.lt).quad
        have hwlt : ws.heap.size < wr.heap.size := by omega
        have hfl := fgt_len_le M (a, b, c, d) j
        by_cases hjm : j < m
        · obtain ⟨g, goff, rfl, hcM⟩ := hoc (by have := hm.out; omega)
          have HF : Hid _ := fgt_succ M (a, b, c, d) j (by rw [← hm.out]; exact hjm)
          obtain ⟨⟨x, y, z, u⟩, hp⟩ : ∃ q, q = M.getD j (0, 0, 0, 0) := ⟨_, rfl⟩
          obtain ⟨hj0, hj1, hj2, hj3⟩ := cell4 hcM hb1 j (by rw [← hm.out]; exact hjm) hp
          rw [← hp] at HF
          clear hp
          have HL : Hid (((fgt (M.take j) (a, b, c, d)).length + 1) * 32 ≤ 140737488355328 ∧ (fgt (M.take j) (a, b, c, d)).length + 1 ≤ maxLen) := ⟨by omega, by unfold maxLen; omega⟩
          have hdj : decide ((j : Int) < (m : Int)) = true := by simpa using hjm
          cases hxa : (x == a) with
          | false =>
            have hxn : (x != a) = true := by simp [bne, hxa]
            have ht : tou (a, b, c, d) (x, y, z, u) = false := by
              rw [beq_eq_false_iff_ne] at hxa
              simp [tou, Ne.symm hxa]
            rw [ht] at HF
            go_wp2_with (at_builtin; go_must (refine wpList_append_rec shC rfl _ _ 37 40 i0 _ 32 rfl Try.underlying37 hi0 hz0 hz1 hz2 rfl W1.heap.size _ _ rfl wr hown.out (((Below.refl _ _).alloc (Nat.le_refl _) _).alloc (by simp) _) hs1 HL.out.1 HL.out.2 (x, y, z, u) _ 1 rfl (box_add' (wr.alloc _) _ (by simp) x y z u _) ?_); intro v3 w3 hown3 hb3)
            have hbn : Below W1.heap.size W1 w3 := ((hb1.alloc hs1 _).alloc (by simp; omega) _).trans hb3
            go_roundw
            case rel => exact ⟨j + 1, by omega, by go_num, by show OwnR _ _ _ _ _ _ _; rw [HF.out]; simpa using hown3, hbn⟩
            case measure => simp [intOf]; omega
          | true =>
            have hxn : (x != a) = false := by simp [bne, hxa]
            by_cases hb0 : b < 0
            · have hd : decide (0 ≤ b) = false := by simp; omega
              have ht : tou (a, b, c, d) (x, y, z, u) = true := by
                rw [beq_iff_eq] at hxa
                simp [tou, hxa, hb0]
              rw [ht] at HF
              go_wp2
              have hbn : Below W1.heap.size W1 (wr.alloc (.cells #[.int .i64 x, .int .i64 y, .int .i64 z, .int .i64 u] 40)) := hb1.alloc hs1 _
              go_roundw
              case rel => exact ⟨j + 1, by omega, by go_num, by show OwnR _ _ _ _ _ _ _; rw [HF.out]; simpa using hown.out.below ((Below.refl _ _).alloc (Nat.le_refl _) _), hbn⟩
              case measure => simp [intOf]; omega
            · have hd : decide (0 ≤ b) = true := by simp; omega
              cases hyb : (y == b) with
              | false =>
                have hyn : (y != b) = true := by simp [bne, hyb]
                have ht : tou (a, b, c, d) (x, y, z, u) = false := by
                  rw [beq_iff_eq] at hxa
                  rw [beq_eq_false_iff_ne] at hyb
                  have : ¬ b = y := fun h => hyb h.symm
                  simp [tou, this, hb0]
                rw [ht] at HF
                go_wp2_with (at_builtin; go_must (refine wpList_append_rec shC rfl _ _ 37 40 i0 _ 32 rfl Try.underlying37 hi0 hz0 hz1 hz2 rfl W1.heap.size _ _ rfl wr hown.out (((Below.refl _ _).alloc (Nat.le_refl _) _).alloc (by simp) _) hs1 HL.out.1 HL.out.2 (x, y, z, u) _ 1 rfl (box_add' (wr.alloc _) _ (by simp) x y z u _) ?_); intro v3 w3 hown3 hb3)
                have hbn : Below W1.heap.size W1 w3 := ((hb1.alloc hs1 _).alloc (by simp; omega) _).trans hb3
                go_roundw
                case rel => exact ⟨j + 1, by omega, by go_num, by show OwnR _ _ _ _ _ _ _; rw [HF.out]; simpa using hown3, hbn⟩
                case measure => simp [intOf]; omega
              | true =>
                have hyn : (y != b) = false := by simp [bne, hyb]
                have ht : tou (a, b, c, d) (x, y, z, u) = true := by
                  rw [beq_iff_eq] at hxa hyb
                  simp [tou, hxa, hyb]
                rw [ht] at HF
                go_wp2
                have hbn : Below W1.heap.size W1 (wr.alloc (.cells #[.int .i64 x, .int .i64 y, .int .i64 z, .int .i64 u] 40)) := hb1.alloc hs1 _
                go_roundw
                case rel => exact ⟨j + 1, by omega, by go_num, by show OwnR _ _ _ _ _ _ _; rw [HF.out]; simpa using hown.out.below ((Below.refl _ _).alloc (Nat.le_refl _) _), hbn⟩
                case measure => simp [intOf]; omega
        · obtain rfl : j = m := by omega
          have htk : M.take j = M := by rw [hm.out, List.take_length]
          rw [htk] at hown hfl
          have hpp := HP.out
          have hbb : Hid (∀ w', Below W1.heap.size W1 w' → Below w.heap.size w w') := fun w' hb => (hbel.trans (hbW.mono hbel.size)).trans (hb.mono (by have := hbW.size; have := hbel.size; omega))
          have hfl8 : (fgt M (a, b, c, d)).length ≤ 8 := by omega
          have hdj : decide ((j : Int) < (j : Int)) = false := by simp
          have HR : Hid _ := hpp
          generalize hf : fgt M (a, b, c, d) = f at hown hfl8
          by_cases hgo : b < 0 ∨ c = 0
          · have hfp : play (l.take (k + 1)) = f := by rw [hpp, hr_gone _ _ hgo, hf]
            obtain ⟨fa, fc, rfl⟩ := hown.out.form
            have h9 : ((f.length : Int) == 9) = false := by rw [beq_eq_false_iff_ne]; omega
            have HFP : Hid (play (l.take (k + 1)) = f) := hfp
            clear hfp hpp hf
            by_cases hb0 : b < 0
            · have hd : decide (0 ≤ b) = false := by simp; omega
              clear hgo
              go_wp2
              go_roundw
              case rel => exact ⟨k + 1, by omega, by go_num, by show IsRecs _ _ _ _ _; rw [HFP.out]; exact hown.out.recs (by omega), hbb.out _ hb1⟩
              case measure => simp [intOf]; omega
            · have hd : decide (0 ≤ b) = true := by simp; omega
              have hcn : (c != 0) = false := by simp; omega
              clear hgo
              go_wp2
              go_roundw
              case rel => exact ⟨k + 1, by omega, by go_num, by show IsRecs _ _ _ _ _; rw [HFP.out]; exact hown.out.recs (by omega), hbb.out _ hb1⟩
              case measure => simp [intOf]; omega
          · have hd : decide (0 ≤ b) = true := by simp; omega
            have hcn : (c != 0) = true := by simp; omega
            have hpp' : play (l.take (k + 1)) = if 8 < f.length + 1 then (f ++ [(a, b, c, d)]).drop 1 else f ++ [(a, b, c, d)] := by
              rw [hpp]
              unfold hr
              rw [if_neg hgo, hf]
            have HL : Hid ((f.length + 1) * 32 ≤ 140737488355328 ∧ f.length + 1 ≤ maxLen) := ⟨by omega, by unfold maxLen; omega⟩
            obtain ⟨L, hL⟩ : ∃ L, Hid (L = f ++ [(a, b, c, d)]) := ⟨_, rfl⟩
            have hLl : L.length = f.length + 1 := by rw [hL.out]; simp
            rw [← hL.out] at hpp'
            clear hgo hpp hf
            by_cases h8 : 8 < f.length + 1
            · rw [if_pos h8] at hpp'
              have HPP : Hid (play (l.take (k + 1)) = L.drop 1) := hpp'
              have hL9 : L.length = 9 := by omega
              clear hpp' hLl h8 hfl8
              go_wp2_with (at_builtin; go_must (refine wpList_append_rec shC rfl _ _ 37 40 i0 _ 32 rfl Try.underlying37 hi0 hz0 hz1 hz2 rfl W1.heap.size _ _ rfl wr hown.out ((Below.refl _ _).alloc (Nat.le_refl _) _) hs1 HL.out.1 HL.out.2 (a, b, c, d) _ 1 rfl (box_add' wr _ (by simp) a b c d _) ?_); intro v3 w3 hown3 hb3; rw [← hL.out] at hown3; obtain ⟨g3, cap3, xs3, rfl, hg3, hrow3, hc3, hcm3, hx3, ht3⟩ := hown3.row (by omega); have hc1 : ¬ (cap3 = 1) := (by omega); have hc9 : 9 ≤ cap3 := (by omega))
              have hbn : Below W1.heap.size W1 w3 := (hb1.alloc hs1 _).trans hb3
              have hrec := recs_tail (n := 8) (by simp; omega) (hown3.recs (B := 9) (by omega)) (by omega)
              go_roundw
              case rel => exact ⟨k + 1, by omega, by go_num, by show IsRecs _ _ _ _ _; rw [HPP.out]; exact hrec, hbb.out _ hbn⟩
              case measure => simp [intOf]; omega
            · rw [if_neg h8] at hpp'
              have HPP : Hid (play (l.take (k + 1)) = L) := hpp'
              have h9 : ((L.length : Int) == 9) = false := by rw [beq_eq_false_iff_ne]; omega
              have hL9 : L.length ≤ 8 := by omega
              clear hpp' hLl
              go_wp2_with (at_builtin; go_must (refine wpList_append_rec shC rfl _ _ 37 40 i0 _ 32 rfl Try.underlying37 hi0 hz0 hz1 hz2 rfl W1.heap.size _ _ rfl wr hown.out ((Below.refl _ _).alloc (Nat.le_refl _) _) hs1 HL.out.1 HL.out.2 (a, b, c, d) _ 1 rfl (box_add' wr _ (by simp) a b c d _) ?_); intro v3 w3 hown3 hb3; rw [← hL.out] at hown3; obtain ⟨a3, cap3, rfl⟩ := hown3.form)
              have hbn : Below W1.heap.size W1 w3 := (hb1.alloc hs1 _).trans hb3
              go_roundw
              case rel => exact ⟨k + 1, by omega, by go_num, by show IsRecs _ _ _ _ _; rw [HPP.out]; exact hown3.recs (by omega), hbb.out _ hbn⟩
              case measure => simp [intOf]; omega
    · go_wp2
      go_ret
      obtain rfl : k = n := by omega
      have hr' := hout.out
      rw [hn.out, List.take_length] at hr'
      exact ⟨_, rfl, hr', hbel⟩

end Go.Proofs.Ytgkdbcafijhdiac

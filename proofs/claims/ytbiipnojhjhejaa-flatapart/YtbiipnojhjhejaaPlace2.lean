/- The contracts of place.isFree, place.All, place.rest and place.Choose. -/
import Derived.Test.YtbiipnojhjhejaaPlace1
import Derived.Test.YtbiipnojhjhejaaIntRecs
namespace Go.Proofs.Ytbiipnojhjhejaa
set_option maxRecDepth 100000
open Go.RowKit
set_option linter.unusedSimpArgs false
set_option linter.unusedVariables false

set_option maxHeartbeats 400000 in
theorem free1_any (g h : Nat) (f t : Int) (x y z u : Int) (c d : Bool) (w : World) (hg : OwnRow w g 3 [.int .i64 t]) (hh : OwnRow w h 3 [.int .i64 f]) :
    Calls Try.prog 93 #[.agg #[.int .i64 x, .int .i64 y, .int .i64 z, .int .i64 u, .bool c, .bool d], .pointer (some ⟨g, 0, none⟩), .pointer (some ⟨h, 0, none⟩)] w fun e w' => e = .returned (.bool (meetR f t (x, y, z, u, c, d))) ∧ Below w.heap.size w w' := by
  have c0 : w.cell? ⟨g, 0, none⟩ = some (.int .i64 t) := by rw [hg.cell]; rfl
  have c1 : w.cell? ⟨h, 0, none⟩ = some (.int .i64 f) := by rw [hh.cell]; rfl
  have z0 := hg.lt
  have z1 := hh.lt
  clear hg hh
  have hbx : Hid (∀ o, Below w.heap.size w (w.alloc o)) := fun o => (Below.refl _ _).alloc (Nat.le_refl _) _
  by_cases h1 : x ≤ t
  · go_enter Try.func93, Try.ntmps93
    go_wp2
    go_ret
    exact ⟨ret_bool (by simp [meetR, h1]), hbx.out _⟩
  · go_enter Try.func93, Try.ntmps93
    go_wp2
    go_ret
    exact ⟨ret_bool (by have h1' : ¬ x ≤ t := by omega
                        simp [meetR, h1']), hbx.out _⟩

set_option maxHeartbeats 400000 in
theorem isFree_any (v : Value) (l : List R6) (f t : Int) (B : Nat) (w : World) (h : IsRecs encR B w v l) (hB : B ≤ 4398046511104) :
    Calls Try.prog 89 #[v, .int .i64 f, .int .i64 t] w fun e w' => e = .returned (.bool (fre l f t)) ∧ Below w.heap.size w w' := by
  have HC : Hid (∀ w1, Below w.heap.size w w1 → OwnRow w1 (w.heap.size + 1) 3 [.int .i64 t] → OwnRow w1 w.heap.size 3 [.int .i64 f] → Calls Try.prog 69 #[v, .func (.func 93) #[] #[.pointer (some ⟨w.heap.size + 1, 0, none⟩), .pointer (some ⟨w.heap.size, 0, none⟩)]] w1 fun e w' => e = .returned (.bool (l.any (meetR f t))) ∧ Below w1.heap.size w1 w') := by
    intro w1 hb h1 h2
    refine rcontains_any #[.pointer (some ⟨w.heap.size + 1, 0, none⟩), .pointer (some ⟨w.heap.size, 0, none⟩)] (meetR f t) v l B w1 (h.below hb) hB (fun w2 x y z u c d hb2 => ?_)
    exact free1_any _ _ f t x y z u c d w2 (h1.below hb2 h1.lt) (h2.below hb2 h2.lt)
  have h2 := own_two (w := w) (xs := [.int .i64 f]) (ys := [.int .i64 t]) (e := 3) (e' := 3) (Below.refl _ _)
  have HB : Hid (Below w.heap.size w ((w.alloc (.cells #[.int .i64 f] 3)).alloc (.cells #[.int .i64 t] 3))) := ((Below.refl _ _).alloc (Nat.le_refl _) _).alloc (by simp) _
  have H2 : Hid _ := h2
  obtain ⟨a, cap, rfl⟩ := h.form
  unfold fre
  generalize l.any (meetR f t) = R at *
  clear h h2
  go_enter Try.func89, Try.ntmps89
  go_wp2_with (go_at_call 69; refine (HC.out _ HB.out H2.out.2 H2.out.1).mono ?_; rintro e w2 ⟨rfl, hw2⟩)
  go_ret
  exact ⟨rfl, HB.out.trans (hw2.mono (by simp; omega))⟩

set_option maxHeartbeats 800000 in
theorem all_any (v : Value) (l : List R6) (c : Int) (B : Nat) (w : World) (h : IsRecs encR B w v l) (hB : B ≤ 4398046511104) (hc0 : bdI c) :
    Calls Try.prog 77 #[v, .int .i64 c] w fun e w' => ∃ v', e = .returned v' ∧ OwnR 3 1 encI w.heap.size w' v' (allP l c) ∧ Below w.heap.size w w' := by
  have HR : Hid (Calls Try.prog 19 #[v] w fun e w' => e = .returned (.bool (rightR l)) ∧ Below w.heap.size w w') := right_any v l B w h hB
  have HF : Hid (∀ w1 f t, Below w.heap.size w w1 → Calls Try.prog 89 #[v, .int .i64 f, .int .i64 t] w1 fun e w' => e = .returned (.bool (fre l f t)) ∧ Below w1.heap.size w1 w') := fun w1 f t hb => isFree_any v l f t B w1 (h.below hb) hB
  obtain ⟨a, cap, rfl⟩ := h.form
  obtain ⟨n, hn⟩ : ∃ n, Hid (n = l.length) := ⟨_, rfl⟩
  rw [← hn.out] at HR HF ⊢
  clear h
  cases hr : rightR l with
  | false =>
    rw [hr] at HR
    have HE : Hid (allP l c = []) := allP_wrong hr
    go_enter Try.func77, Try.ntmps77
    go_wp2_with (go_at_call 19; refine HR.out.mono ?_; rintro e w1 ⟨rfl, hw1⟩)
    go_ret
    exact ⟨_, rfl, by rw [HE.out]; exact ownR_nil _ _ _, hw1⟩
  | true =>
    rw [hr] at HR
    by_cases hc1 : c < 1
    · have HE : Hid (allP l c = []) := allP_few hc1
      go_enter Try.func77, Try.ntmps77
      go_wp2_with (go_at_call 19; refine HR.out.mono ?_; rintro e w1 ⟨rfl, hw1⟩)
      go_ret
      exact ⟨_, rfl, by rw [HE.out]; exact ownR_nil _ _ _, hw1⟩
    · have HE : Hid (allP l c = upP l c (65 - c).toNat) := allP_pos hr (by omega)
      rw [HE.out]
      obtain ⟨i0, hi0, hz0, hz1, hz2⟩ := info_parts info_int
      have hd1 : decide (c < 1) = false := by simpa using hc1
      obtain ⟨b1, b2⟩ := hc0
      clear hr
      go_enter Try.func77, Try.ntmps77
      go_wp2_with (go_at_call 19; refine HR.out.mono ?_; rintro e w1 ⟨rfl, hw1⟩)
      go_loopw [5, 6] (fun v i wr => ∃ p : Nat, i = .int .i64 p ∧ p ≤ (65 - c).toNat ∧ Hid (OwnR 3 1 encI w.heap.size wr v (upP l c p)) ∧ Below w.heap.size w wr) (fun _ i _ => 65 - (intOf i).toNat)
      case atStart => exact ⟨0, rfl, Nat.zero_le _, ownR_nil _ _ _, hw1⟩
      case round =>
        obtain ⟨p, rfl, hp, hown, hbel⟩ := hrel
        obtain ⟨va, vc, rfl⟩ := hown.out.form
        have hlen := upP_len l c p
        by_cases hlt : (p : Int) + c ≤ 64
        · have HY : Hid _ := upP_yes (l := l) (c := c) (n := p)
          have HN : Hid _ := upP_no (l := l) (c := c) (n := p)
          have HFp : Hid (Calls Try.prog 89 #[.slice a n cap, .int .i64 ((p : Int) - 1), .int .i64 ((p : Int) + c)] wr fun e w' => e = .returned (.bool (fre l ((p : Int) - 1) ((p : Int) + c))) ∧ Below wr.heap.size wr w') := HF.out wr _ _ hbel
          obtain ⟨acc, hacc⟩ : ∃ acc, Hid (acc = upP l c p) := ⟨_, rfl⟩
          rw [← hacc.out] at hown hlen HY HN ⊢
          have hbw := hbel.size
          have HL1 : Hid ((acc.length + 1) * 8 ≤ 140737488355328) := by show _ ≤ _; omega
          have HL2 : Hid (acc.length + 1 ≤ maxLen) := by show _ ≤ _; unfold maxLen; omega
          cases hf : fre l ((p : Int) - 1) ((p : Int) + c) with
          | true =>
            rw [hf] at HFp
            have HU : Hid (upP l c (p + 1) = acc ++ [(p : Int)]) := HY.out hf
            clear HY HN hf
            go_wp2_with (first
              | (go_at_call 89; refine HFp.out.mono ?_; rintro e w2 ⟨rfl, hw2⟩)
              | (at_builtin; go_must (refine wpList_append_rec shI rfl _ _ 52 3 i0 _ 8 rfl Try.underlying52 hi0 hz0 hz1 hz2 rfl w.heap.size _ acc rfl w2 (hown.out.below hw2) ((Below.refl _ _).alloc (Nat.le_refl _) _) (Nat.le_trans hbw hw2.size) HL1.out HL2.out (p : Int) _ 1 rfl (box1 w2 _ rfl _ _) ?_); intro v' w3 hown3 hbw3))
            go_roundw
            case rel => exact ⟨p + 1, by go_num, by omega, by show OwnR _ _ _ _ _ _ _; rw [HU.out]; exact hown3, (((hbel.trans (hw2.mono hbw)).alloc (Nat.le_trans hbw hw2.size) _).trans hbw3)⟩
            case measure => simp [intOf]; omega
          | false =>
            rw [hf] at HFp
            have HU : Hid (upP l c (p + 1) = acc) := HN.out hf
            clear HY HN hf
            go_wp2_with (first
              | (go_at_call 89; refine HFp.out.mono ?_; rintro e w2 ⟨rfl, hw2⟩))
            go_roundw
            case rel => exact ⟨p + 1, by go_num, by omega, by show OwnR _ _ _ _ _ _ _; rw [HU.out]; exact hown.out.below hw2, hbel.trans (hw2.mono hbw)⟩
            case measure => simp [intOf]; omega
        · obtain ⟨S, hS⟩ : ∃ S, Hid (S = (p : Int) + c) := ⟨_, rfl⟩
          have hw : wrap64 ((p : Int) + c) = S := by
            rw [hS.out]
            unfold wrap64
            omega
          have hS2 : decide (S ≤ 64) = false := by rw [hS.out]; simpa using hlt
          have hpe : p = (65 - c).toNat := by omega
          have HPE : Hid _ := hpe
          clear hpe
          go_wp2
          go_ret
          refine ⟨_, rfl, ?_, hbel⟩
          rw [← HPE.out]
          exact hown.out

theorem rest_eq (d : Int) (n : Nat) (hn : 0 < n) : (0 ≤ d.tmod n → d % n = d.tmod n) ∧ (d.tmod n < 0 → d % n = d.tmod n + n) ∧ -(n : Int) < d.tmod n ∧ d.tmod n < n := by
  have h1 := Int.lt_tmod_of_pos d (show (0 : Int) < n by omega)
  have h2 := Int.tmod_lt_of_pos d (show (0 : Int) < n by omega)
  have h3 : d.tmod n % n = d % n := by rw [Int.tmod_def, Int.sub_mul_emod_self_left]
  refine ⟨fun h => ?_, fun h => ?_, h1, h2⟩
  · rw [← h3, Int.emod_eq_of_lt h h2]
  · rw [← h3, ← Int.add_emod_right, Int.emod_eq_of_lt (by omega) (by omega)]

set_option maxHeartbeats 400000 in
theorem rest_any (d : Int) (n : Nat) (hn : 0 < n) (hn2 : n ≤ 64) (w : World) :
    Calls Try.prog 78 #[.int .i64 d, .int .i64 n] w fun e w' => e = .returned (.int .i64 (d % n)) ∧ Below w.heap.size w w' := by
  obtain ⟨h1, h2, h3, h4⟩ := rest_eq d n hn
  have hne : ¬ (n : Int) = 0 := by omega
  obtain ⟨T, hT⟩ : ∃ T, d.tmod n = T := ⟨_, rfl⟩
  rw [hT] at h1 h2 h3 h4
  obtain ⟨M, hM⟩ : ∃ M, Hid (M = d % (n : Int)) := ⟨_, rfl⟩
  rw [← hM.out] at h1 h2 ⊢
  by_cases h0 : T < 0
  · have HE : Hid (M = T + n) := h2 h0
    clear h1 h2 hM
    go_enter Try.func78, Try.ntmps78
    go_wp2
    go_ret
    exact ⟨ret_int HE.out.symm, Below.refl _ _⟩
  · have HE : Hid (M = T) := h1 (by omega)
    clear h1 h2 hM
    go_enter Try.func78, Try.ntmps78
    go_wp2
    go_ret
    exact ⟨ret_int HE.out.symm, Below.refl _ _⟩

/-- A number and an error, as they are returned. -/
abbrev numV (x e : Int) : Value := .tuple #[.int .i64 x, .int .i64 e]

set_option maxHeartbeats 800000 in
theorem choose_any (v : Value) (l : List R6) (c d : Int) (B : Nat) (w : World) (h : IsRecs encR B w v l) (hB : B ≤ 4398046511104) (hc0 : bdI c) :
    Calls Try.prog 58 #[v, .int .i64 c, .int .i64 d] w fun e w' => e = .returned (numV (choV l c d) (choE l c)) ∧ Below w.heap.size w w' := by
  have HR : Hid (Calls Try.prog 19 #[v] w fun e w' => e = .returned (.bool (rightR l)) ∧ Below w.heap.size w w') := right_any v l B w h hB
  have HA : Hid (∀ w1, Below w.heap.size w w1 → Calls Try.prog 77 #[v, .int .i64 c] w1 fun e w' => ∃ v', e = .returned v' ∧ OwnR 3 1 encI w1.heap.size w' v' (allP l c) ∧ Below w1.heap.size w1 w') := fun w1 hb => all_any v l c B w1 (h.below hb) hB hc0
  obtain ⟨a, cap, rfl⟩ := h.form
  obtain ⟨n, hn⟩ : ∃ n, Hid (n = l.length) := ⟨_, rfl⟩
  rw [← hn.out] at HR HA ⊢
  clear h
  cases hr : rightR l with
  | false =>
    rw [hr] at HR
    have hE : choE l c = 1 := by unfold choE; rw [if_neg (by rw [hr]; decide)]
    have hV : choV l c d = 0 := choV_no (by rw [hE]; decide)
    rw [hE, hV]
    clear hE hV hr
    go_enter Try.func58, Try.ntmps58
    go_wp2_with (go_at_call 19; refine HR.out.mono ?_; rintro e w1 ⟨rfl, hw1⟩)
    go_ret2
    exact ⟨rfl, hw1⟩
  | true =>
    rw [hr] at HR
    by_cases hc : 1 ≤ c ∧ c ≤ 64
    · obtain ⟨q1, q2⟩ := hc
      have hl64 := allP_len l c
      by_cases hl : (allP l c).length = 0
      · have hE : choE l c = 4 := by unfold choE; rw [if_pos hr, if_pos ⟨q1, q2⟩, if_pos hl]
        have hV : choV l c d = 0 := choV_no (by rw [hE]; decide)
        rw [hE, hV]
        obtain ⟨L, hL⟩ : ∃ L, Hid (L = allP l c) := ⟨_, rfl⟩
        rw [← hL.out] at HA hl
        clear hE hV hr hl64
        have HA' : Hid (∀ w1, Below w.heap.size w w1 → Calls Try.prog 77 #[.slice a n cap, .int .i64 c] w1 fun e w' => ∃ va vc, e = .returned (.slice va 0 vc) ∧ Below w1.heap.size w1 w') := fun w1 hb => (HA.out w1 hb).mono fun e w' ⟨v', he, ho, hb'⟩ => by
          obtain ⟨va, vc, rfl⟩ := ho.form
          rw [hl] at he
          exact ⟨va, vc, he, hb'⟩
        clear HA hl
        go_enter Try.func58, Try.ntmps58
        go_wp2_with (first
          | (go_at_call 19; refine HR.out.mono ?_; rintro e w1 ⟨rfl, hw1⟩)
          | (go_at_call 77; refine (HA'.out _ hw1).mono ?_; rintro e w2 ⟨va, vc, rfl, hw2⟩))
        go_ret2
        exact ⟨rfl, hw1.trans (hw2.mono hw1.size)⟩
      · have hE : choE l c = 0 := by unfold choE; rw [if_pos hr, if_pos ⟨q1, q2⟩, if_neg hl]
        have hV := choV_at (d := d) hE
        rw [hE, hV]
        obtain ⟨L, hL⟩ : ∃ L, Hid (L = allP l c) := ⟨_, rfl⟩
        rw [← hL.out] at HA hl hl64 ⊢
        clear hE hV hr
        obtain ⟨m, hm⟩ : ∃ m, Hid (m = L.length) := ⟨_, rfl⟩
        rw [← hm.out] at hl hl64 ⊢
        have HM : Hid (∀ w1, Calls Try.prog 78 #[.int .i64 d, .int .i64 m] w1 fun e w' => e = .returned (.int .i64 (d % (m : Int))) ∧ Below w1.heap.size w1 w') := fun w1 => rest_any d m (by omega) hl64 w1
        have h5 := Int.emod_nonneg d (show (m : Int) ≠ 0 by omega)
        have h6 := Int.emod_lt_of_pos d (show (0 : Int) < (m : Int) by omega)
        obtain ⟨k, hk⟩ : ∃ k : Nat, d % (m : Int) = k := ⟨(d % (m : Int)).toNat, by omega⟩
        rw [hk] at HM h5 h6 ⊢
        rw [Int.toNat_natCast]
        have hkm : k < m := by omega
        clear h5 h6 hk
        obtain ⟨X, hX⟩ : ∃ X, Hid (X = L.getD k 0) := ⟨_, rfl⟩
        rw [← hX.out]
        have HA' : Hid (∀ w1, Below w.heap.size w w1 → Calls Try.prog 77 #[.slice a n cap, .int .i64 c] w1 fun e w' => ∃ b off vc, e = .returned (.slice (some ⟨b, off, none⟩) m vc) ∧ w'.cell? ⟨b, off + k, none⟩ = some (.int .i64 X) ∧ Below w1.heap.size w1 w') := fun w1 hb => (HA.out w1 hb).mono fun e w' ⟨v', he, ho, hb'⟩ => by
          obtain ⟨va, vc, rfl, -, -, hcell⟩ := ho.recs (B := 64) (by rw [← hm.out]; exact hl64)
          obtain ⟨b, off, rfl, hc⟩ := hcell (by rw [← hm.out]; omega)
          exact ⟨b, off, vc, by rw [he, ← hm.out], cell1 hc (Below.refl _ _) k (by rw [← hm.out]; exact hkm) hX.out, hb'⟩
        clear HA
        go_enter Try.func58, Try.ntmps58
        go_wp2_with (first
          | (go_at_call 19; refine HR.out.mono ?_; rintro e w1 ⟨rfl, hw1⟩)
          | (go_at_call 77; refine (HA'.out _ hw1).mono ?_; rintro e w2 ⟨b, off, vc, rfl, hx0, hw2⟩)
          | (go_at_call 78; refine (HM.out _).mono ?_; rintro e w3 ⟨rfl, hw3⟩; have hx1 := (hw3.cell (cell_lt hx0)).trans hx0))
        go_ret2
        have hx2 := hw1.trans (hw2.mono hw1.size)
        exact ⟨rfl, hx2.trans (hw3.mono hx2.size)⟩
    · have hE : choE l c = 2 := by unfold choE; rw [if_pos hr, if_neg hc]
      have hV : choV l c d = 0 := choV_no (by rw [hE]; decide)
      rw [hE, hV]
      clear hE hV hr
      by_cases q1 : c < 1
      · clear hc
        go_enter Try.func58, Try.ntmps58
        go_wp2_with (go_at_call 19; refine HR.out.mono ?_; rintro e w1 ⟨rfl, hw1⟩)
        go_ret2
        exact ⟨rfl, hw1⟩
      · have q2 : 64 < c := by omega
        have q3 : decide (c < 1) = false := by simpa using q1
        clear hc q1
        go_enter Try.func58, Try.ntmps58
        go_wp2_with (go_at_call 19; refine HR.out.mono ?_; rintro e w1 ⟨rfl, hw1⟩)
        go_ret2
        exact ⟨rfl, hw1⟩

end Go.Proofs.Ytbiipnojhjhejaa

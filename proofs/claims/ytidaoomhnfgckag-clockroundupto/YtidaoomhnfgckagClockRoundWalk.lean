/- The walk of framewardenkeep.ClockRound: everybody's turn comes. -/
import Derived.Test.YtidaoomhnfgckagAlive11
namespace Go.Proofs.Ytidaoomhnfgckag
open Go.RowKit
set_option linter.unusedSimpArgs false
set_option linter.unusedVariables false

theorem info_cint : (Try.prog.info? 3).map (fun i => (i.zero, i.size, i.bytes)) = some (some (.int .i64 0), 1, 8) := by kernel_rfl

/-- How often each one was told, as a row. -/
def cntV (c : List Nat) : List Value := c.map (fun x : Nat => Value.int .i64 (x : Int))

theorem cntV_zero (n : Nat) : cntV (List.replicate n 0) = List.replicate n (Value.int .i64 0) := by simp [cntV]
theorem cntV_set (c : List Nat) (i x : Nat) : (cntV c).set i (.int .i64 (x : Int)) = cntV (c.set i x) := by unfold cntV; rw [List.map_set]
theorem cntV_get {c : List Nat} {i : Nat} (hi : i < c.length) : (cntV c)[i]? = some (.int .i64 (c.getD i 0 : Nat)) := by
  unfold cntV
  rw [List.getElem?_map, List.getD_eq_getElem?_getD, List.getElem?_eq_getElem hi]
  rfl

theorem set_le {c : List Nat} {r i : Nat} (h : ∀ j, c.getD j 0 ≤ r) : ∀ j, (c.set i (c.getD i 0 + 1)).getD j 0 ≤ r + 1 := by
  intro j
  rw [List.getD_eq_getElem?_getD, List.getElem?_set]
  split
  · split
    · have := h i
      simp only [Option.getD_some]
      omega
    · exact Nat.zero_le _
  · have := h j
    rw [List.getD_eq_getElem?_getD] at this
    omega

theorem OwnR.beside {α : Type} {m : Nat} {enc : α → List Value} {e : TypeId} {base g i : Nat} {w : World} {v x : Value} {l : List α} (h : OwnR e m enc base w v l) (hg : g < base) : OwnR e m enc base (w.setCell ⟨g, i, none⟩ x) v l := by
  obtain ⟨h1, h2 | ⟨g', cap, cur, rfl, hbg, hg', hr⟩⟩ := h
  · exact ⟨h1, Or.inl h2⟩
  · exact ⟨h1, Or.inr ⟨g', cap, cur, rfl, hbg, (Below.heap_setCell w _ x g' (by show g' ≠ g; omega)).trans hg', hr⟩⟩

/-- A call at such a place of the walk. -/
theorem next_more (H T : Nat) (v u : Value) (m us : List Bool) (B : Nat) (w : World) (h : IsRecs encB B w v m) (hu : IsRecs encB B w u (passL m us H T)) (hB : B ≤ 140737488355328) (hH : H < m.length) (hl : m.length = us.length) (hm : true ∈ m) :
    Calls Try.prog 6 #[.int .i64 (ringP m.length H T : Nat), v, u] w fun e w' => ∃ K va vc, e = .returned (.tuple #[.int .i64 (ringP m.length H (T + K) : Nat), .int .i64 (ringP m.length H (T + K + 1) : Nat), .slice va m.length vc, .int .i64 0]) ∧
      Stops m (passL m us H T) (ringP m.length H T) K ∧ OwnR 4 1 encB w.heap.size w' (.slice va m.length vc) (passL m us H (T + K + 1)) ∧ Below w.heap.size w w' := by
  refine (next_any _ v u m _ B w h hu hB).mono ?_
  rintro e w' ⟨a, b, v', L, err, rfl, ho, hs, hb⟩
  obtain ⟨K, hK, rfl, rfl, rfl, rfl⟩ := says_more hH hl hm hs
  obtain ⟨va, vc, rfl⟩ := ho.form
  rw [passL_len, ← hl] at ho
  exact ⟨K, va, vc, by rw [passL_len, ← hl]; rfl, hK, ho, hb⟩

/-- The first call: an error, or a walk begins. -/
theorem next_first (hand : Int) (v u : Value) (m us : List Bool) (B : Nat) (w : World) (h : IsRecs encB B w v m) (hu : IsRecs encB B w u us) (hB : B ≤ 140737488355328) :
    Calls Try.prog 6 #[.int .i64 hand, v, u] w fun e w' => ∃ a b va n vc err, e = .returned (.tuple #[.int .i64 a, .int .i64 b, .slice va n vc, .int .i64 err]) ∧
      ((err != 0) = true ∨ ((err != 0) = false ∧ m.length = us.length ∧ (∃ H : Nat, hand = H ∧ H < m.length) ∧ true ∈ m)) ∧ Below w.heap.size w w' := by
  refine (next_any hand v u m us B w h hu hB).mono ?_
  rintro e w' ⟨a, b, v', L, err, rfl, ho, hs, hb⟩
  obtain ⟨va, vc, rfl⟩ := ho.form
  refine ⟨a, b, va, _, vc, err, rfl, ?_, hb⟩
  rcases hs with ⟨-, -, -, -, rfl⟩ | ⟨-, -, -, -, -, rfl⟩ | ⟨-, -, -, -, -, -, rfl⟩ | ⟨h1, h2, h3, rfl, -⟩
  · exact Or.inl rfl
  · exact Or.inl rfl
  · exact Or.inl rfl
  · exact Or.inr ⟨rfl, h1, ⟨hand.toNat, by omega, by omega⟩, h3⟩

set_option maxHeartbeats 3200000 in
theorem clockRound_walk (hand : Int) (v : Value) (m : List Bool) (u : Value) (us : List Bool) (w : World) (hw : (Lit.int .i64 hand).wf = true) (h : IsRecs encB 1048576 w v m) (hu : IsRecs encB 1048576 w u us) :
    Calls Try.prog 5 #[.int .i64 hand, v, u] w fun e w' => e = .returned (.bool true) ∧ Below w.heap.size w w' := by
  obtain ⟨i0, hi0, hz0, hz1, hz2⟩ := info_parts info_cint
  have HN : Hid (∀ w1, Below w.heap.size w w1 → Calls Try.prog 6 #[.int .i64 hand, v, u] w1 fun e w' => ∃ a b va n vc err, e = .returned (.tuple #[.int .i64 a, .int .i64 b, .slice va n vc, .int .i64 err]) ∧
      ((err != 0) = true ∨ ((err != 0) = false ∧ m.length = us.length ∧ (∃ H : Nat, hand = H ∧ H < m.length) ∧ true ∈ m)) ∧ Below w1.heap.size w1 w') := fun w1 hb => next_first hand v u m us _ w1 (h.below hb) (hu.below hb) (by decide)
  have HX : Hid (∀ H T u' w1, H < m.length → m.length = us.length → true ∈ m → Below w.heap.size w w1 → IsRecs encB 1048576 w1 u' (passL m us H T) → Calls Try.prog 6 #[.int .i64 (ringP m.length H T : Nat), v, u'] w1 fun e w' => ∃ K va vc, e = .returned (.tuple #[.int .i64 (ringP m.length H (T + K) : Nat), .int .i64 (ringP m.length H (T + K + 1) : Nat), .slice va m.length vc, .int .i64 0]) ∧
      Stops m (passL m us H T) (ringP m.length H T) K ∧ OwnR 4 1 encB w1.heap.size w' (.slice va m.length vc) (passL m us H (T + K + 1)) ∧ Below w1.heap.size w1 w') := fun H T u' w1 h1 h2 h3 hb hr => next_more H T v u' m us _ w1 (h.below hb) hr (by decide) h1 h2 h3
  have HU0 : Hid (∀ w1, Below w.heap.size w w1 → IsRecs encB 1048576 w1 u us) := fun w1 hb => hu.below hb
  have hlm := h.len
  obtain ⟨a, cap, rfl, h1, -, hc'⟩ := h
  obtain ⟨ua, ucap, rfl⟩ := hu.form
  clear hu
  go_enter Try.func5, Try.ntmps5
  go_wp2_with fail
  refine (alive11_any _).mono ?_
  rintro e w1 ⟨rfl, hb1⟩
  go_wp2_with fail
  refine (HN.out _ hb1).mono ?_
  rintro e w2 ⟨x, y, va, k0, vc, err, rfl, herr | ⟨herr, hl, ⟨H, rfl, hH⟩, hm⟩, hb2⟩
  · clear HN HX hc'
    go_wp2_with fail
    go_ret
    exact ⟨rfl, hb1.trans (hb2.mono hb1.size)⟩
  · have hb12 := hb1.trans (hb2.mono hb1.size)
    obtain ⟨b, off, rfl, hc⟩ := hc' (by omega)
    have HM : Hid (∀ i (wr : World), i < m.length → Below w.heap.size w wr → wr.cell? ⟨b, off + i, none⟩ = some (.bool (m.getD i false))) := fun i wr hi hb => cellB hc hb i hi rfl
    have HXX : Hid (∀ T u' w1, Below w.heap.size w w1 → IsRecs encB 1048576 w1 u' (passL m us H T) → Calls Try.prog 6 #[.int .i64 (ringP m.length H T : Nat), .slice (some ⟨b, off, none⟩) m.length cap, u'] w1 fun e w' => ∃ K va vc, e = .returned (.tuple #[.int .i64 (ringP m.length H (T + K) : Nat), .int .i64 (ringP m.length H (T + K + 1) : Nat), .slice va m.length vc, .int .i64 0]) ∧
      Stops m (passL m us H T) (ringP m.length H T) K ∧ OwnR 4 1 encB w1.heap.size w' (.slice va m.length vc) (passL m us H (T + K + 1)) ∧ Below w1.heap.size w1 w') := fun T u' w1 hb hr => HX.out H T u' w1 hH hl hm hb hr
    have HZ : Hid (H = ringP m.length H 0) := (ringP_zero hH).symm
    have HLT : Hid (∀ T, ringP m.length H T < m.length) := fun T => ringP_lt (by omega)
    have HPL : Hid (∀ T, (passL m us H T).length = m.length) := fun T => by rw [passL_len, ← hl]
    have HMORE : Hid (∀ T K c, Had m us H T c → Stops m (passL m us H T) (ringP m.length H T) K → Had m us H (T + K + 1) (c.set (ringP m.length H (T + K)) (c.getD (ringP m.length H (T + K)) 0 + 1))) := fun T K c hc hK => had_more hc hK (by omega)
    have HALL : Hid (∀ T c i, Had m us H T c → 2 * m.length ≤ T → i < m.length → (m.getD i false = true ↔ 0 < c.getD i 0)) := fun T c i hc hT hi => had_all hH hc hT hi
    have HLEN : Hid (∀ T c, Had m us H T c → c.length = m.length) := fun T c hc => hc.1
    have HH0 : Hid (Had m us H 0 (List.replicate m.length 0)) := had_zero m us H
    have HUL : Hid (us.length = m.length) := hl.symm
    rw [← hl]
    obtain ⟨n, hn⟩ : ∃ n, Hid (n = m.length) := ⟨_, rfl⟩
    have hHn : H < n := by rw [hn.out]; exact hH
    simp only [← hn.out] at HM HXX HZ HLT HPL HMORE HALL HLEN HH0 HUL hlm h1 ⊢
    clear HN HX hc' hc hl hH hm
    go_wp2_with (refine wpList_make_row _ rfl _ _ 29 rfl 3 i0 _ Try.underlying29 hi0 hz0 hz1 rfl .i64 .i64 _ _ n rfl rfl rfl rfl (by rw [hz2]; omega) (by unfold maxLen; omega) ?_; intro w3 ho3 hb3 hs3)
    have hb13 : Below w.heap.size w w3 := hb12.trans (hb3.mono hb12.size)
    obtain ⟨g, hg⟩ : ∃ g, g = w2.heap.size := ⟨_, rfl⟩
    have hgw : w.heap.size ≤ g := by rw [hg]; exact hb12.size
    have HR0 : Hid (IsRecs encB 1048576 w3 (.slice ua n ucap) us) := by
      have := HU0.out w3 hb13
      rw [HUL.out] at this
      exact this
    rw [← hg] at ho3 ⊢
    clear hg hb3 hs3 HU0
    go_loopw [0, 2, 37] (fun p q i wr => ∃ (r T : Nat) (c : List Nat), r ≤ 2 * n ∧ i = .int .i64 r ∧ r ≤ T ∧ p = .int .i64 (ringP n H T : Nat) ∧ Hid (IsRecs encB 1048576 wr q (passL m us H T)) ∧ Hid (OwnRow wr g 3 (cntV c) ∧ Had m us H T c ∧ ∀ j, c.getD j 0 ≤ r) ∧ Below w.heap.size w wr) (fun _ _ i _ => 2 * n - (intOf i).toNat)
    case atStart => exact ⟨0, 0, List.replicate n 0, Nat.zero_le _, rfl, Nat.le_refl _, by rw [← HZ.out], HR0, ⟨by rw [cntV_zero]; exact ho3, HH0.out, fun j => by rw [List.getD_eq_getElem?_getD, List.getElem?_replicate]; split <;> simp⟩, hb13⟩
    case round =>
      obtain ⟨r, T, c, hr, rfl, hrT, rfl, hq, HC, hbel⟩ := hrel
      obtain ⟨qa, qc, rfl⟩ := hq.out.form
      rw [HPL.out] at hq ⊢
      by_cases hlt : r < 2 * n
      · obtain ⟨hoc, hhad, hcr⟩ := HC.out
        have HXr : Hid _ := HXX.out T _ wr hbel hq.out
        have HMr : Hid (∀ K, Stops m (passL m us H T) (ringP n H T) K → Had m us H (T + K + 1) (c.set (ringP n H (T + K)) (c.getD (ringP n H (T + K)) 0 + 1))) := fun K hK => HMORE.out T K c hhad hK
        have HLr : Hid (c.length = n) := HLEN.out T c hhad
        have HO : Hid (OwnRow wr g 3 (cntV c)) := hoc
        have HCR : Hid (∀ j, c.getD j 0 ≤ r) := hcr
        have hglt := hoc.lt
        obtain ⟨P, hP⟩ : ∃ P, Hid (P = ringP n H T) := ⟨_, rfl⟩
        rw [← hP.out] at HXr HMr ⊢
        clear HC hoc hhad hcr HXX HMORE HALL HH0
        go_wp2_with fail
        refine Calls.mono HXr.out ?_
        rintro e w4 ⟨K, va', vc', rfl, hK, hoL, hb4⟩
        have HH : Hid (Had m us H (T + K + 1) (c.set (ringP n H (T + K)) (c.getD (ringP n H (T + K)) 0 + 1))) := HMr.out K hK
        have hV := HLT.out (T + K)
        have ho4 := HO.out.below hb4 hglt
        have c0 : w4.cell? ⟨g, ringP n H (T + K), none⟩ = some (.int .i64 (c.getD (ringP n H (T + K)) 0 : Nat)) := by rw [ho4.cell]; exact cntV_get (by rw [HLr.out]; exact hV)
        have cf := ho4.free (ringP n H (T + K))
        have hcv := HCR.out (ringP n H (T + K))
        have HS : Hid _ := set_le (i := ringP n H (T + K)) HCR.out
        have HO4 : Hid (OwnRow w4 g 3 (cntV c)) := ho4
        have HOL : Hid (OwnR 4 1 encB wr.heap.size w4 (.slice va' n vc') (passL m us H (T + K + 1))) := hoL
        clear hK hoL ho4 HXr HMr
        obtain ⟨V2, hV2⟩ : ∃ V2, Hid (V2 = ringP n H (T + K + 1)) := ⟨_, rfl⟩
        rw [← hV2.out]
        generalize ringP n H (T + K) = V at hV c0 cf hcv HH HS ⊢
        obtain ⟨cv, hcv2⟩ : ∃ x, Hid (x = c.getD V 0) := ⟨_, rfl⟩
        rw [← hcv2.out] at c0 hcv HH HS
        have hx1 : decide ((V : Int) < 0) = false := by simp
        have hx2 : decide ((n : Int) ≤ (V : Int)) = false := by simp; omega
        go_wp2_with fail
        go_roundw
        case rel =>
          refine ⟨r + 1, T + K + 1, c.set V (cv + 1), by omega, by go_num, by omega, by rw [hV2.out], (HOL.out.beside hglt).recs (by rw [HPL.out]; exact hlm), ⟨?_, HH.out, HS.out⟩, (hbel.trans (hb4.mono hbel.size)).setCell hgw _⟩
          rw [← cntV_set]
          exact HO4.out.set V _
        case measure => simp [intOf]; omega
      · obtain ⟨hoc, hhad, hcr⟩ := HC.out
        have HA : Hid (∀ i, i < n → (m.getD i false = true ↔ 0 < c.getD i 0)) := fun i hi => HALL.out T c i hhad (by omega) hi
        have HLr : Hid (c.length = n) := HLEN.out T c hhad
        have HO : Hid (OwnRow wr g 3 (cntV c)) := hoc
        obtain ⟨P, hP⟩ : ∃ P, Hid (P = ringP n H T) := ⟨_, rfl⟩
        rw [← hP.out]
        clear HC hoc hhad hcr HXX HMORE HALL HH0
        go_wp2_with fail
        go_loop [71] (fun i => ∃ k : Nat, k ≤ n ∧ i = .int .i64 k) (fun i => n - (intOf i).toNat)
        case atStart => exact ⟨0, Nat.zero_le _, rfl⟩
        case round =>
          obtain ⟨k, hk, rfl⟩ := hrel
          by_cases hkn : k < n
          · have c0 := HM.out k wr hkn hbel
            have c1 : wr.cell? ⟨g, k, none⟩ = some (.int .i64 (c.getD k 0 : Nat)) := by rw [HO.out.cell]; exact cntV_get (by rw [HLr.out]; exact hkn)
            have hiff := HA.out k hkn
            generalize c.getD k 0 = y at c1 hiff
            cases hM : m.getD k false with
            | true =>
              rw [hM] at c0
              have hy : 0 < y := hiff.1 hM
              clear hiff hM
              go_wp2_with fail
              go_round
              case rel => exact ⟨k + 1, by omega, by go_num⟩
              case measure => simp [intOf]; omega
            | false =>
              rw [hM] at c0
              have hy : y = 0 := by
                rcases Nat.eq_zero_or_pos y with h0 | h0
                · exact h0
                · rw [hiff.2 h0] at hM; cases hM
              clear hiff hM
              subst hy
              go_wp2_with fail
              go_round
              case rel => exact ⟨k + 1, by omega, by go_num⟩
              case measure => simp [intOf]; omega
          · go_wp2_with fail
            go_ret
            exact ⟨rfl, hbel⟩

end Go.Proofs.Ytidaoomhnfgckag

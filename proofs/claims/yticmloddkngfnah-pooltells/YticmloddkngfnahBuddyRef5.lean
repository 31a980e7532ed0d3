/- The contract of the document's own answer framewardenref.BTake: it answers what buddy.Take answers. -/
import Derived.Test.YticmloddkngfnahBuddyRef3
namespace Go.Proofs.Yticmloddkngfnah
open Go.RowKit
set_option linter.unusedSimpArgs false
set_option linter.unusedVariables false

/-- What best answers: the least order that serves, and of those the first. -/
theorem bst_min (o : Int) (l : List (Int × Int)) : ∀ k : Nat, (bst o l k = -1 ∧ ∀ i : Nat, i < k → ¬ o ≤ (l.getD i (0, 0)).2) ∨
    ∃ j : Nat, j < k ∧ bst o l k = j ∧ o ≤ (l.getD j (0, 0)).2 ∧ (∀ i : Nat, i < k → o ≤ (l.getD i (0, 0)).2 → (l.getD j (0, 0)).2 ≤ (l.getD i (0, 0)).2) ∧ ∀ i : Nat, i < j → o ≤ (l.getD i (0, 0)).2 → (l.getD j (0, 0)).2 < (l.getD i (0, 0)).2
  | 0 => Or.inl ⟨rfl, fun i hi => by omega⟩
  | k + 1 => by
    rcases bst_min o l k with ⟨h1, h2⟩ | ⟨j, h1, h2, h3, h4, h5⟩
    · by_cases hc : o ≤ (l.getD k (0, 0)).2
      · refine Or.inr ⟨k, by omega, ?_, hc, fun i hi ho => ?_, fun i hi ho => absurd ho (h2 i hi)⟩
        · simp only [bst]
          rw [if_pos ⟨hc, Or.inl (by omega)⟩]
        · by_cases h : i = k
          · rw [h]; exact Int.le_refl _
          · exact absurd ho (h2 i (by omega))
      · refine Or.inl ⟨?_, fun i hi => ?_⟩
        · simp only [bst]
          rw [if_neg (fun h => hc h.1), h1]
        · by_cases h : i = k
          · rw [h]; exact hc
          · exact h2 i (by omega)
    · by_cases hc : o ≤ (l.getD k (0, 0)).2 ∧ (l.getD k (0, 0)).2 < (l.getD j (0, 0)).2
      · refine Or.inr ⟨k, by omega, ?_, hc.1, fun i hi ho => ?_, fun i hi ho => ?_⟩
        · simp only [bst]
          rw [if_pos]
          rw [h2, Int.toNat_natCast]
          exact ⟨hc.1, Or.inr hc.2⟩
        · by_cases h : i = k
          · rw [h]; exact Int.le_refl _
          · have := h4 i (by omega) ho; omega
        · have := h4 i hi ho; omega
      · refine Or.inr ⟨j, by omega, ?_, h3, fun i hi ho => ?_, h5⟩
        · simp only [bst]
          rw [if_neg, h2]
          rw [h2, Int.toNat_natCast]
          rintro ⟨c1, c2 | c2⟩
          · omega
          · exact hc ⟨c1, c2⟩
        · by_cases h : i = k
          · rw [h] at ho ⊢
            omega
          · exact h4 i (by omega) ho

theorem bst_first {o q : Int} {l : List (Int × Int)} {j : Nat} (hj : j < l.length) (hq : (l.getD j (0, 0)).2 = q) (ho : o ≤ q) (hmin : ∀ i : Nat, i < l.length → ¬ (o ≤ (l.getD i (0, 0)).2 ∧ (l.getD i (0, 0)).2 < q)) (hfst : ∀ i : Nat, i < j → (l.getD i (0, 0)).2 ≠ q) :
    bst o l l.length = j := by
  rcases bst_min o l l.length with ⟨h1, h2⟩ | ⟨m, h1, h2, h3, h4, h5⟩
  · exact absurd (by omega) (h2 j hj)
  · rw [h2]
    have e1 := h4 j hj (by omega)
    have e2 := hmin m h1
    have e3 : (l.getD m (0, 0)).2 = q := by omega
    rcases Nat.lt_trichotomy m j with h | h | h
    · exact absurd e3 (hfst m h)
    · rw [h]
    · have := h5 j h (by omega)
      omega

theorem bst_none {o : Int} {l : List (Int × Int)} (h : ∀ i : Nat, i < l.length → ¬ o ≤ (l.getD i (0, 0)).2) : ¬ (0 ≤ bst o l l.length) := by
  rcases bst_min o l l.length with ⟨h1, h2⟩ | ⟨m, h1, h2, h3, h4, h5⟩
  · omega
  · exact absurd h3 (h m h1)

/-- The bits of F without the first j frames of a block at x. -/
def clrR (F : Nat → Bool) (x j : Nat) : Nat → Bool := fun t => F t && !(decide (x ≤ t) && decide (t < x + j))

theorem clrR_zero (F : Nat → Bool) (x : Nat) : clrR F x 0 = F := by
  funext t
  unfold clrR
  have : (decide (x ≤ t) && decide (t < x + 0)) = false := by
    rw [Bool.and_eq_false_iff, decide_eq_false_iff_not, decide_eq_false_iff_not]
    omega
  rw [this]
  simp

theorem clrR_succ (F : Nat → Bool) (x j : Nat) : upd (clrR F x j) (x + j) false = clrR F x (j + 1) := by
  funext t
  unfold upd clrR
  by_cases h : t = x + j
  · subst h
    have : (decide (x ≤ x + j) && decide (x + j < x + (j + 1))) = true := by
      rw [Bool.and_eq_true, decide_eq_true_eq, decide_eq_true_eq]; omega
    rw [if_pos rfl, this]
    simp
  · rw [if_neg h]
    congr 2
    rw [Bool.eq_iff_iff]
    simp only [Bool.and_eq_true, decide_eq_true_eq]
    omega

set_option maxRecDepth 100000 in
set_option maxHeartbeats 8000000 in
theorem bref_take (v : Value) (l : List (Int × Int)) (o : Int) (w : World) (h : IsBlocks w v l) :
    Calls Try.prog 18 #[v, .int .i64 o] w fun e w' => ∃ v', e = .returned (.tuple #[v', .int .i64 (takeAt l o), .int .i64 (takeE l o)]) ∧ OwnB w.heap.size w' v' (takeL l o) ∧ Below w.heap.size w w' := by
  have hnil : ∀ w', OwnB w.heap.size w' (.slice none 0 0) [] := fun w' => ⟨rfl, Or.inl ⟨rfl, rfl⟩⟩
  have HI : Hid (IsBlocks w v l) := h
  by_cases hr : rightB l = true
  · by_cases ho : 0 ≤ o ∧ o ≤ 6
    · obtain ⟨o0, o6⟩ := ho
      have hor : isOrd o = true := by simp [isOrd, o0, o6]
      have hA := rightB_blk hr
      have d1 : decide (o < 0) = false := by simp; omega
      have d2 : decide (o > 6) = false := by simp; omega
      have HNONE : Hid ((∀ i : Nat, i < l.length → ¬ o ≤ (l.getD i (0, 0)).2) → takeE l o = 4 ∧ takeL l o = [] ∧ takeAt l o = 0) := fun hno => by
        have hb := bst_none hno
        exact ⟨by simp [takeE, hr, hor, hb], by simp [takeL, hb], by simp [takeAt, hb]⟩
      have HSOME : Hid (∀ j : Nat, j < l.length → bst o l l.length = j → takeE l o = 0 ∧ takeAt l o = (l.getD j (0, 0)).1) := fun j hj hb => ⟨by simp [takeE, hr, hor, hb], by simp [takeAt, hr, hor, hb]⟩
      obtain ⟨a, cap, rfl, h1, hl, hc'⟩ := h
      obtain ⟨n, hn⟩ : ∃ n, Hid (n = l.length) := ⟨_, rfl⟩
      rw [← hn.out] at hl hc' ⊢ HI
      go_enter Try.func18, Try.ntmps18
      go_wp2_with fail
      refine (bright_is _ l _ HI.out hr).mono ?_
      rintro e w1 ⟨rfl, hb1⟩
      go_wp2_with fail
      clear d1 d2
      go_loopw [7] (fun i wr => ∃ q : Nat, o ≤ (q : Int) ∧ q ≤ 7 ∧ i = .int .i64 q ∧ (∀ i : Nat, i < n → ¬ (o ≤ (l.getD i (0, 0)).2 ∧ (l.getD i (0, 0)).2 < (q : Int))) ∧ Below w.heap.size w wr) (fun i _ => 7 - (intOf i).toNat)
      case atStart => exact ⟨o.toNat, by omega, by omega, by rw [Int.toNat_of_nonneg o0], fun i hi hc => by omega, hb1⟩
      clear hb1
      case round =>
        obtain ⟨q, hoq, hq7, rfl, hmin, hbel⟩ := hrel
        have HMIN : Hid (∀ i : Nat, i < n → ¬ (o ≤ (l.getD i (0, 0)).2 ∧ (l.getD i (0, 0)).2 < (q : Int))) := hmin
        clear hmin
        by_cases hq : q < 7
        · have hq6 : (q : Int) ≤ 6 := by omega
          go_wp2_with fail
          go_loopw [29] (fun i wr => ∃ j : Nat, j ≤ n ∧ i = .int .i64 j ∧ (∀ i : Nat, i < j → (l.getD i (0, 0)).2 ≠ (q : Int)) ∧ Below w.heap.size w wr) (fun i _ => n - (intOf i).toNat)
          case atStart => exact ⟨0, Nat.zero_le _, rfl, fun i hi => by omega, hbel⟩
          clear hbel
          case round =>
            obtain ⟨j, hj, rfl, hfst, hbel⟩ := hrel
            by_cases hjl : j < n
            · obtain ⟨b, off, rfl, hc⟩ := hc' (by omega)
              have hck := hc j hjl
              have hjl2 : j < l.length := by have := hn.out; omega
              have hA' := hA.get hjl2
              have HFST : Hid (∀ i : Nat, i < j → (l.getD i (0, 0)).2 ≠ (q : Int)) := hfst
              have HFOUND : Hid ((l.getD j (0, 0)).2 = (q : Int) → takeE l o = 0 ∧ takeAt l o = (l.getD j (0, 0)).1) := fun he =>
                HSOME.out j (by have := hn.out; omega) (bst_first hjl2 he hoq (fun i hi => HMIN.out i (by have := hn.out; omega)) hfst)
              have HNX : Hid ((l.getD j (0, 0)).2 ≠ (q : Int) → ∀ i : Nat, i < j + 1 → (l.getD i (0, 0)).2 ≠ (q : Int)) := fun hne i hi => by
                by_cases h : i = j
                · rw [h]; exact hne
                · exact hfst i (by omega)
              obtain ⟨⟨px, py⟩, hp⟩ : ∃ p, p = l.getD j (0, 0) := ⟨_, rfl⟩
              rw [← hp] at hck HFOUND HNX hA'
              clear hp hfst
              simp only at hck HFOUND HNX hA'
              have hk0 : wr.cell? ⟨b, off + j * 2, none⟩ = some (.int .i64 px) := (hbel.cell (cell_lt hck.1)).trans hck.1
              have hk1 : wr.cell? ⟨b, off + j * 2 + 1, none⟩ = some (.int .i64 py) := (hbel.cell (cell_lt hck.2)).trans hck.2
              clear hck hc hc'
              have hbA : Below wr.heap.size wr (wr.alloc (.cells #[.int .i64 px, .int .i64 py] 45)) := (Below.refl _ _).alloc (Nat.le_refl _) _
              have hwA := hbel.trans (hbA.mono hbel.size)
              by_cases hpy : py = (q : Int)
              · obtain ⟨e1, e3⟩ := HFOUND.out hpy
                obtain ⟨-, G1, G2, G3, G4, -⟩ := take_good e1
                rw [e3] at G2 G3 G4
                have E1 : Hid (takeE l o = 0) := e1
                have E3 : Hid (takeAt l o = px) := e3
                have GG : Hid (Good (takeL l o) ∧ (∀ k, covL l k ↔ covL (takeL l o) k ∨ cov (px, o) k) ∧ ∀ k, covL (takeL l o) k → ¬ cov (px, o) k) := ⟨G1, G3, G4⟩
                obtain ⟨-, -, x0, xs, -⟩ := isBlk_iff.1 G2
                clear e1 e3 G1 G2 G3 G4 HFOUND HNX HFST HSOME HNONE HMIN
                have hro : OwnRow (wr.alloc (.cells #[.int .i64 px, .int .i64 py] 45)) wr.heap.size 45 [.int .i64 px, .int .i64 py] := heap_alloc_new wr _
                obtain ⟨W, hW⟩ : ∃ W, W = wr.alloc (.cells #[.int .i64 px, .int .i64 py] 45) := ⟨_, rfl⟩
                obtain ⟨X, hX⟩ : ∃ X, X = wr.heap.size := ⟨_, rfl⟩
                subst hpy
                go_wp2_with fail
                rw [← hW, ← hX]
                rw [← hW] at hro hbA hwA
                rw [← hX] at hro
                clear hW hX
                refine (bfree_any _ l _ (HI.out.below hwA)).mono ?_
                rintro e w3 ⟨⟨g, F, rfl, hrow, hg, hok, hF⟩ | ⟨rfl, hno⟩, hb3⟩
                · obtain ⟨d, rfl⟩ : ∃ d : Nat, o = d := ⟨o.toNat, by omega⟩
                  obtain ⟨x, rfl⟩ : ∃ x : Nat, px = x := ⟨px.toNat, by omega⟩
                  have hd7 : d < 7 := by omega
                  have hpb := pow_bd hd7
                  have hsz := szN d
                  have H1 : Hid _ := (wrapN hd7).1
                  have H2 : Hid _ := (wrapN hd7).2
                  have H3 : Hid _ := (wrapN2 hd7).1
                  have H4 : Hid _ := (wrapN2 hd7).2
                  obtain ⟨s, hs⟩ : ∃ s : Nat, s = 2 ^ d := ⟨_, rfl⟩
                  rw [← hs] at H1 H2 H3 H4 hpb hsz
                  clear hs
                  rw [hsz] at xs
                  have HSZ : Hid (sz (d : Int) = (s : Int)) := hsz
                  have HF : Hid (∀ t : Nat, t < 64 → (F t = true ↔ covL l t)) := hF
                  have hxs : x + s ≤ 64 := by omega
                  have hXl := hro.lt
                  have hro3 := hro.below hb3 hXl
                  have hgX : X ≠ g := by omega
                  have hwA3 := hwA.trans (hb3.mono hwA.size)
                  have hwg : w.heap.size ≤ g := Nat.le_trans hwA.size hg
                  clear hF hok hsz hro hbA hk0 hk1
                  have hw1 := H1.out
                  have hw2 := H2.out
                  have hw3 := H3.out
                  have hw4 := H4.out
                  go_wp2_with fail
                  clear hw1 hw2 hw3 hw4
                  go_loopw [44] (fun i wr => ∃ r : Nat, r ≤ s ∧ i = .int .i64 r ∧ OwnRow wr g 4 (bitsL (clrR F x r)) ∧ OwnRow wr X 45 [.int .i64 (x : Int), .int .i64 (q : Int)] ∧ Below w.heap.size w wr) (fun i _ => s - (intOf i).toNat)
                  case atStart => exact ⟨0, Nat.zero_le _, rfl, by rw [clrR_zero]; exact hrow, hro3, hwA3⟩
                  clear hrow hro3 hwA3 hwA
                  case round =>
                    obtain ⟨r, hr2, rfl, hrw, hrx, hbel⟩ := hrel
                    have hc0 : wr.cell? ⟨X, 0, none⟩ = some (.int .i64 (x : Int)) := by rw [hrx.cell]; rfl
                    have hc1 : wr.cell? ⟨X, 1, none⟩ = some (.int .i64 (q : Int)) := by rw [hrx.cell]; rfl
                    by_cases hrs : r < s
                    · have hcg : wr.cell? ⟨g, x + r, none⟩ = some (.bool (clrR F x r (x + r))) := by rw [hrw.cell]; exact bitsL_get _ _ (by omega)
                      have hfz := hrw.free (x + r)
                      have HRW : Hid (OwnRow (wr.setCell ⟨g, x + r, none⟩ (.bool false)) g 4 (bitsL (clrR F x (r + 1)))) := by
                        have := hrw.set (x + r) (.bool false)
                        rw [bitsL_set, clrR_succ] at this
                        exact this
                      have HRX : Hid (OwnRow (wr.setCell ⟨g, x + r, none⟩ (.bool false)) X 45 [.int .i64 (x : Int), .int .i64 (q : Int)]) := hrx.of_block (Below.heap_setCell wr ⟨g, x + r, none⟩ (.bool false) X hgX)
                      clear hrw hrx
                      go_wp2
                      exact ⟨⟨r + 1, by omega, by go_num, HRW.out, HRX.out, hbel.setCell hwg _⟩, by simp [intOf]; omega⟩
                    · obtain rfl : s = r := by omega
                      have HRW : Hid (OwnRow wr g 4 (bitsL (clrR F x s))) := hrw
                      have HRWd : Hid (OwnRow wr.drew g 4 (bitsL (clrR F x s))) := hrw
                      clear hrw hrx
                      go_wp2_with fail
                      go_region_held3 (fun w' => w'.cell? ⟨X, 0, none⟩ = some (.int .i64 (x : Int)) ∧ Below wr.heap.size wr w') (first | exact ⟨hc0, (Below.refl _ _).drew⟩ | exact ⟨(hb9'.cell (cell_lt hc0)).trans hc0, hb9'⟩)
                        (first | (go_at_call 24; refine (bblocks_any g _ _ HRWd.out).mono ?_; rintro e w9 ⟨v9, L, rfl, ho9, hG9, hL9, hb9⟩; have hb9' : Below wr.heap.size wr w9 := ((Below.refl wr.heap.size wr).drew).trans hb9))
                      have HEQ : Hid (L = takeL l (d : Int)) := good_bits hG9 GG.out.1 (fun t ht => by
                        rw [← hL9 t ht]
                        unfold clrR
                        rw [Bool.and_eq_true, HF.out t ht, GG.out.2.1 t, Bool.not_eq_true', Bool.and_eq_false_iff, decide_eq_false_iff_not, decide_eq_false_iff_not]
                        have hcv : cov ((x : Int), (d : Int)) t ↔ x ≤ t ∧ t < x + s := by
                          unfold cov
                          simp only [HSZ.out]
                          omega
                        rw [hcv]
                        constructor
                        · rintro ⟨h1 | h1, h2⟩
                          · exact h1
                          · omega
                        · intro h1
                          refine ⟨Or.inl h1, ?_⟩
                          have h2 := GG.out.2.2 t h1
                          rw [hcv] at h2
                          omega)
                      go_wp2
                      go_ret3
                      exact ⟨v9, by rw [E1.out, E3.out]; rfl, by rw [← HEQ.out]; exact ho9.mono hbel.size, hbel.trans (hb9'.mono hbel.size)⟩
                · exact (hno (okB_of_good (good_of_right hr))).elim
              · have hd : (py == (q : Int)) = false := by simpa using hpy
                have HN2 : Hid _ := HNX.out hpy
                go_wp2
                exact ⟨⟨j + 1, by omega, by go_num, HN2.out, hwA⟩, by simp [intOf]; omega⟩
            · obtain rfl : n = j := by omega
              have HM2 : Hid (∀ i : Nat, i < n → ¬ (o ≤ (l.getD i (0, 0)).2 ∧ (l.getD i (0, 0)).2 < ((q + 1 : Nat) : Int))) := fun i hi hc => by
                have e1 := hfst i hi
                have e2 := HMIN.out i hi
                push_cast at hc
                omega
              clear hfst
              go_wp2
              exact ⟨⟨q + 1, by omega, by omega, by go_num, HM2.out, hbel⟩, by simp [intOf]; omega⟩
        · obtain rfl : q = 7 := by omega
          obtain ⟨e1, e2, e3⟩ := HNONE.out (fun i hi => by have e1 := HMIN.out i (by have := hn.out; omega); have e2 := (isBlk_iff.1 (hA.get hi)).2.1; omega)
          have E1 : Hid _ := e1
          have E2 : Hid _ := e2
          have E3 : Hid _ := e3
          clear e1 e2 e3
          go_wp2
          go_ret3
          exact ⟨_, by rw [E1.out, E3.out]; rfl, by rw [E2.out]; exact hnil _, hbel⟩
    · have hor : isOrd o = false := by simp only [isOrd, decide_eq_false_iff_not]; exact ho
      have E1 : Hid (takeE l o = 2) := by show _ = _; simp [takeE, hr, hor]
      have E2 : Hid (takeL l o = []) := takeL_bad (by rw [E1.out]; decide)
      have E3 : Hid (takeAt l o = 0) := by show _ = _; simp [takeAt, hor]
      clear h hor
      by_cases c1 : o < 0
      · go_enter Try.func18, Try.ntmps18
        go_wp2_with fail
        refine (bright_is _ l _ HI.out hr).mono ?_
        rintro e w1 ⟨rfl, hb1⟩
        go_wp2
        go_ret3
        exact ⟨_, by rw [E1.out, E3.out]; rfl, by rw [E2.out]; exact hnil _, hb1⟩
      · have d1 : decide (o < 0) = false := by simpa using c1
        have d2 : decide (o > 6) = true := by simp; omega
        go_enter Try.func18, Try.ntmps18
        go_wp2_with fail
        refine (bright_is _ l _ HI.out hr).mono ?_
        rintro e w1 ⟨rfl, hb1⟩
        go_wp2
        go_ret3
        exact ⟨_, by rw [E1.out, E3.out]; rfl, by rw [E2.out]; exact hnil _, hb1⟩
  · have hr' : rightB l = false := by simpa using hr
    have E1 : Hid (takeE l o = 1) := by show _ = _; simp [takeE, hr']
    have E2 : Hid (takeL l o = []) := takeL_bad (by rw [E1.out]; decide)
    have E3 : Hid (takeAt l o = 0) := by show _ = _; simp [takeAt, hr']
    clear h
    go_enter Try.func18, Try.ntmps18
    go_wp2_with fail
    refine (bright_is _ l _ HI.out hr').mono ?_
    rintro e w1 ⟨rfl, hb1⟩
    go_wp2
    go_ret3
    exact ⟨_, by rw [E1.out, E3.out]; rfl, by rw [E2.out]; exact hnil _, hb1⟩

end Go.Proofs.Yticmloddkngfnah

/- What was taken and given back is as it was, and what is meant by two is not free when one of them goes: framewardenkeep.PoolBack returns true at every pool within the form's own reach. -/
import Derived.Test.YticmloddkngfnahAlive13
namespace Go.Proofs.Yticmloddkngfnah
open Go.RowKit
set_option linter.unusedSimpArgs false
set_option linter.unusedVariables false

set_option maxRecDepth 100000 in
set_option maxHeartbeats 6400000 in
theorem poolBack_walk (v : Value) (l : List (Int × Int)) (R : Nat → Int) (w : World) (h : IsBlocks w v l) (hR : ∀ i : Nat, i < 64 → R i ≤ 9223372036854775807) :
    Calls Try.prog 4 #[.agg (poolC v R).toArray] w fun e w' => e = .returned (.bool true) ∧ Below w.heap.size w w' := by
  have HIN : Hid (∀ w1, Below w.heap.size w w1 → IsPool w1 (poolC v R).toArray l R) := fun w1 hb => ⟨v, rfl, h.below hb⟩
  have hx0 : (poolC v R).toArray[0]? = some v := rfl
  have HXF : Hid _ := (HIN.out w (Below.refl _ _)).facts
  obtain ⟨va, vn, vc, rfl⟩ := h.form
  have HLEN : Hid (l = [] → vn = 0) := by
    obtain ⟨a, cap, hv, -⟩ := h
    injection hv with h1 h2 h3
    intro hl
    rw [h2, hl]
    rfl
  obtain ⟨X, hX⟩ : ∃ X, Hid (X = (poolC (.slice va vn vc) R).toArray) := ⟨_, rfl⟩
  rw [← hX.out] at HIN hx0 HXF ⊢
  clear h hX
  have hbA : Below w.heap.size w (w.alloc (.cells X 25)) := (Below.refl _ _).alloc (Nat.le_refl _) _
  have hgA : (w.alloc (.cells X 25)).heap[w.heap.size]? = some (.cells X 25 (0, 0)) := heap_alloc_new w _
  obtain ⟨w0, hw0⟩ : ∃ w0, w0 = w.alloc (.cells X 25) := ⟨_, rfl⟩
  have hzv := zero_value
  have hzs := zero_size
  have hzn := zero_ne
  cases hp : poolB l R with
  | false =>
    have hpe : ptE l R = 1 := by simp [ptE, hp]
    have HT : Hid (∀ w1, Below w.heap.size w w1 → Calls Try.prog 6 #[.agg X] w1 fun e w' => ∃ Y n, e = .returned (.tuple #[.agg Y, .int .i64 n, .int .i64 1]) ∧ ((Try.prog.info? 25).map (·.size) = some Y.size ∧ Y.size = 65 ∧ Y.all (·.oneCell') = true) ∧ Below w1.heap.size w1 w') := fun w1 hb => by
      refine (take_pool' w1 (HIN.out w1 hb)).mono ?_
      rintro e w2 ⟨Y, rfl, h1, -, h2⟩
      exact ⟨Y, _, by rw [hpe], h1.facts, h2⟩
    have HRT : Hid (∀ w1, Below w.heap.size w w1 → Calls Try.prog 14 #[.agg X] w1 fun e w' => e = .returned (.bool false) ∧ Below w1.heap.size w1 w') := fun w1 hb => by
      have := right_pool w1 (HIN.out w1 hb)
      rwa [hp] at this
    clear hp hpe
    go_enter Try.func4, Try.ntmps4
    go_wp2_with fail
    rw [← hw0] at hbA hgA ⊢
    clear hw0
    refine (alive13_any w0).mono ?_
    rintro e w1 ⟨rfl, hb1⟩
    have hg1 := heap_below hgA hb1
    have hbb1 := hbA.trans (hb1.mono hbA.size)
    clear hgA hbA hb1
    go_wp2_with (refine wpList_load_row rfl 25 (.tmp 1) rfl w.heap.size rfl 25 X (0, 0) _ hg1 Try.underlying25 rfl HXF.out.1 ?_)
    refine (HT.out _ hbb1).mono ?_
    rintro e w2 ⟨Y, n, rfl, hy, hb2⟩
    have hg2 := heap_below hg1 hb2
    have hbb2 := hbb1.trans (hb2.mono hbb1.size)
    have HY : Hid _ := hy
    have hbB : Below w2.heap.size w2 (w2.alloc (.cells Y 25)) := (Below.refl _ _).alloc (Nat.le_refl _) _
    have hg3 := heap_below hg2 hbB
    have hbb3 := hbb2.trans (hbB.mono hbb2.size)
    clear hg1 hbb1 hg2 hbb2 hb2 hbB hy
    go_wp2_with (first
      | (refine wpList_store_row rfl 25 (.tmp 3) _ rfl w2.heap.size Y rfl rfl 25 _ (heap_alloc_new w2 _) HY.out.1 (by rw [HY.out.2.1]; exact zero_size) HY.out.2.2 ?_; rw [World.setRow_alloc_new])
      | (refine wpList_load_row_g 25 (.tmp 1) rfl (by first | rfl | simp [Region.wanted, yielded, Act.put]) w.heap.size rfl 25 X (0, 0) _ hg3 Try.underlying25 rfl HXF.out.1 ?_))
    refine (HRT.out _ hbb3).mono ?_
    rintro e w4 ⟨rfl, hb4⟩
    go_wp2
    go_ret
    exact ⟨rfl, hbb3.trans (hb4.mono hbb3.size)⟩
  | true =>
    by_cases hE : takeE l 0 = 0
    · obtain ⟨x, hx⟩ : ∃ x : Nat, takeAt l 0 = x := ⟨(takeAt l 0).toNat, by have := take_at hE; omega⟩
      obtain ⟨x64, q1, b1, ⟨b2, b3, b4, b4'⟩, ⟨b5, b6, b7⟩, b8, b9, b10⟩ := back13 hp hE hx
      have hpe : ptE l R = 0 := by simp [ptE, hp, hE]
      have hm1 : ∀ i : Nat, i < 64 → updR R x 1 i ≤ 9223372036854775807 := updR_max hR (by decide)
      have hm2 : ∀ i : Nat, i < 64 → updR R x 2 i ≤ 9223372036854775807 := updR_max hR (by decide)
      have hN : ptN l R = (x : Int) ∧ ptL l R = takeL l 0 ∧ ptR l R = updR R x 1 := ⟨by simp [ptN, hpe, hx], by simp [ptL, hpe], by simp [ptR, hpe, hx]⟩
      have HT : Hid (∀ w1, Below w.heap.size w w1 → Calls Try.prog 6 #[.agg X] w1 fun e w' => ∃ Y, e = .returned (.tuple #[.agg Y, .int .i64 (x : Int), .int .i64 0]) ∧ IsPool w' Y (takeL l 0) (updR R x 1) ∧ Below w1.heap.size w1 w') := fun w1 hb => by
        refine (take_pool' w1 (HIN.out w1 hb)).mono ?_
        rintro e w2 ⟨Y, rfl, h1, -, h2⟩
        rw [hN.2.1, hN.2.2] at h1
        exact ⟨Y, by rw [hN.1, hpe], h1, h2⟩
      generalize takeL l 0 = M at *
      generalize updR R x 1 = R1 at *
      generalize updR R x 2 = R2 at *
      have HS : Hid (∀ Y w1, IsPool w1 Y M R1 → Calls Try.prog 8 #[.agg Y, .int .i64 (x : Int)] w1 fun e w' => ∃ Z, e = .returned (.tuple #[.agg Z, .int .i64 0]) ∧ IsPool w' Z M R2 ∧ Below w1.heap.size w1 w') := fun Y w1 h => by
        refine (share_pool' (x : Int) w1 h).mono ?_
        rintro e w2 ⟨Z, rfl, h1, -, h2⟩
        rw [b3, b4] at h1
        exact ⟨Z, by rw [b2], h1, h2⟩
      have HD : Hid (∀ Y w1, IsPool w1 Y M R2 → Calls Try.prog 10 #[.agg Y, .int .i64 (x : Int)] w1 fun e w' => ∃ Z, e = .returned (.tuple #[.agg Z, .int .i64 0]) ∧ IsPool w' Z M R1 ∧ Below w1.heap.size w1 w') := fun Y w1 h => by
        refine (drop_pool' (x : Int) w1 h hm2).mono ?_
        rintro e w2 ⟨Z, rfl, h1, -, h2⟩
        rw [b6, b7] at h1
        exact ⟨Z, by rw [b5], h1, h2⟩
      have HE : Hid (∀ Y w1, IsPool w1 Y M R1 → Calls Try.prog 10 #[.agg Y, .int .i64 (x : Int)] w1 fun e w' => ∃ Z, e = .returned (.tuple #[.agg Z, .int .i64 0]) ∧ IsPool w' Z l R ∧ Below w1.heap.size w1 w') := fun Y w1 h => by
        refine (drop_pool' (x : Int) w1 h hm1).mono ?_
        rintro e w2 ⟨Z, rfl, h1, -, h2⟩
        rw [b9, b10] at h1
        exact ⟨Z, by rw [b8], h1, h2⟩
      have HRT : Hid (∀ Y Q w1, Q = R1 ∨ Q = R2 → IsPool w1 Y M Q → Calls Try.prog 14 #[.agg Y] w1 fun e w' => e = .returned (.bool true) ∧ Below w1.heap.size w1 w') := fun Y Q w1 hq h => by
        have := right_pool w1 h
        rcases hq with rfl | rfl
        · rwa [b1] at this
        · rwa [b4'] at this
      have HQ : Hid (R x = 0) := q1
      have HXX : Hid _ := HXF.out
      clear hp hpe hE hx b1 b2 b3 b4 b4' b5 b6 b7 b8 b9 b10 hm1 hm2 hN hR q1 HLEN
      go_enter Try.func4, Try.ntmps4
      go_wp2_with fail
      rw [← hw0] at hbA hgA ⊢
      clear hw0
      refine (alive13_any w0).mono ?_
      rintro e w1 ⟨rfl, hb1⟩
      have hg1 := heap_below hgA hb1
      have hbb1 := hbA.trans (hb1.mono hbA.size)
      clear hgA hbA hb1
      go_wp2_with (refine wpList_load_row rfl 25 (.tmp 1) rfl w.heap.size rfl 25 X (0, 0) _ hg1 Try.underlying25 rfl HXF.out.1 ?_)
      refine (HT.out _ hbb1).mono ?_
      rintro e w2 ⟨Y, rfl, hy, hb2⟩
      have hg2 := heap_below hg1 hb2
      have hbb2 := hbb1.trans (hb2.mono hbb1.size)
      have HY : Hid _ := hy.facts
      have hbB : Below w2.heap.size w2 (w2.alloc (.cells Y 25)) := (Below.refl _ _).alloc (Nat.le_refl _) _
      have HP2 : Hid ((w2.alloc (.cells Y 25)).heap[w.heap.size]? = some (.cells X 25 (0, 0)) ∧ (w2.alloc (.cells Y 25)).heap[w2.heap.size]? = some (.cells Y 25 (0, 0)) ∧ IsPool (w2.alloc (.cells Y 25)) Y M R1 ∧ Below w.heap.size w (w2.alloc (.cells Y 25))) :=
        ⟨heap_below hg2 hbB, heap_alloc_new w2 _, hy.below hbB, hbb2.trans (hbB.mono hbb2.size)⟩
      clear hg1 hbb1 hg2 hbb2 hb2 hbB hy
      go_wp2_with (first
        | (refine wpList_store_row rfl 25 (.tmp 3) _ rfl w2.heap.size Y rfl rfl 25 _ (heap_alloc_new w2 _) HY.out.1 (by rw [HY.out.2.1]; exact zero_size) HY.out.2.2 ?_; rw [World.setRow_alloc_new])
        | (refine wpList_load_row rfl 25 (.tmp 3) rfl w2.heap.size rfl 25 Y (0, 0) _ HP2.out.2.1 Try.underlying25 rfl HY.out.1 ?_))
      refine (HS.out _ _ HP2.out.2.2.1).mono ?_
      rintro e w3 ⟨Z, rfl, hz, hb3⟩
      have HZ : Hid _ := hz.facts
      have hbB : Below w3.heap.size w3 (w3.alloc (.cells Z 25)) := (Below.refl _ _).alloc (Nat.le_refl _) _
      have hbC := hb3.trans (hbB.mono hb3.size)
      have HP3 : Hid (((w3.alloc (.cells Z 25)).heap[w.heap.size]? = some (.cells X 25 (0, 0)) ∧ (w3.alloc (.cells Z 25)).heap[w2.heap.size]? = some (.cells Y 25 (0, 0)) ∧ (w3.alloc (.cells Z 25)).heap[w3.heap.size]? = some (.cells Z 25 (0, 0))) ∧ IsPool (w3.alloc (.cells Z 25)) Y M R1 ∧ IsPool (w3.alloc (.cells Z 25)) Z M R2 ∧ Below w.heap.size w (w3.alloc (.cells Z 25))) :=
        ⟨⟨heap_below HP2.out.1 hbC, heap_below HP2.out.2.1 hbC, heap_alloc_new w3 _⟩, HP2.out.2.2.1.below hbC, hz.below hbB, bel_next hbC HP2.out.2.2.2⟩
      clear hb3 hbB hbC hz HP2
      go_wp2_with (first
        | (refine wpList_store_row rfl 25 (.tmp 6) _ rfl w3.heap.size Z rfl rfl 25 _ (heap_alloc_new w3 _) HZ.out.1 (by rw [HZ.out.2.1]; exact zero_size) HZ.out.2.2 ?_; rw [World.setRow_alloc_new])
        | (refine wpList_load_row rfl 25 (.tmp 6) rfl w3.heap.size rfl 25 Z (0, 0) _ HP3.out.1.2.2 Try.underlying25 rfl HZ.out.1 ?_))
      refine (HD.out _ _ HP3.out.2.2.1).mono ?_
      rintro e w4 ⟨U, rfl, hu, hb4⟩
      have HU : Hid _ := hu.facts
      have hbB : Below w4.heap.size w4 (w4.alloc (.cells U 25)) := (Below.refl _ _).alloc (Nat.le_refl _) _
      have hbC := hb4.trans (hbB.mono hb4.size)
      have HP4 : Hid (((w4.alloc (.cells U 25)).heap[w.heap.size]? = some (.cells X 25 (0, 0)) ∧ (w4.alloc (.cells U 25)).heap[w2.heap.size]? = some (.cells Y 25 (0, 0)) ∧ (w4.alloc (.cells U 25)).heap[w3.heap.size]? = some (.cells Z 25 (0, 0)) ∧ (w4.alloc (.cells U 25)).heap[w4.heap.size]? = some (.cells U 25 (0, 0))) ∧ (IsPool (w4.alloc (.cells U 25)) Y M R1 ∧ IsPool (w4.alloc (.cells U 25)) Z M R2 ∧ IsPool (w4.alloc (.cells U 25)) U M R1) ∧ Below w.heap.size w (w4.alloc (.cells U 25))) :=
        ⟨⟨heap_below HP3.out.1.1 hbC, heap_below HP3.out.1.2.1 hbC, heap_below HP3.out.1.2.2 hbC, heap_alloc_new w4 _⟩, ⟨HP3.out.2.1.below hbC, HP3.out.2.2.1.below hbC, hu.below hbB⟩, bel_next hbC HP3.out.2.2.2⟩
      clear hb4 hbB hbC hu HP3
      go_wp2_with (first
        | (refine wpList_store_row rfl 25 (.tmp 8) _ rfl w4.heap.size U rfl rfl 25 _ (heap_alloc_new w4 _) HU.out.1 (by rw [HU.out.2.1]; exact zero_size) HU.out.2.2 ?_; rw [World.setRow_alloc_new])
        | (refine wpList_load_row rfl 25 (.tmp 8) rfl w4.heap.size rfl 25 U (0, 0) _ HP4.out.1.2.2.2 Try.underlying25 rfl HU.out.1 ?_))
      refine (HE.out _ _ HP4.out.2.1.2.2).mono ?_
      rintro e w5 ⟨V, rfl, hv, hb5⟩
      have HV : Hid _ := hv.facts
      have hbB : Below w5.heap.size w5 (w5.alloc (.cells V 25)) := (Below.refl _ _).alloc (Nat.le_refl _) _
      have hbC := hb5.trans (hbB.mono hb5.size)
      have hbW := bel_next hbC HP4.out.2.2
      obtain ⟨W, hW⟩ : ∃ W, W = w5.alloc (.cells V 25) := ⟨_, rfl⟩
      have HG : Hid (∀ w1, Below W.heap.size W w1 → w1.heap[w.heap.size]? = some (.cells X 25 (0, 0)) ∧ w1.heap[w2.heap.size]? = some (.cells Y 25 (0, 0)) ∧ w1.heap[w3.heap.size]? = some (.cells Z 25 (0, 0)) ∧ w1.heap[w4.heap.size]? = some (.cells U 25 (0, 0)) ∧ w1.heap[w5.heap.size]? = some (.cells V 25 (0, 0))) := fun w1 hb => by
        rw [hW] at hb
        exact ⟨heap_below (heap_below HP4.out.1.1 hbC) hb, heap_below (heap_below HP4.out.1.2.1 hbC) hb, heap_below (heap_below HP4.out.1.2.2.1 hbC) hb, heap_below (heap_below HP4.out.1.2.2.2 hbC) hb, heap_below (heap_alloc_new w5 _) hb⟩
      have HI : Hid (∀ w1, Below W.heap.size W w1 → IsPool w1 X l R ∧ IsPool w1 Y M R1 ∧ IsPool w1 Z M R2 ∧ IsPool w1 U M R1 ∧ IsPool w1 V l R ∧ Below w.heap.size w w1) := fun w1 hb => by
        rw [hW] at hb
        have hbw := bel_next hb hbW
        exact ⟨HIN.out _ hbw, (HP4.out.2.1.1.below hbC).below hb, (HP4.out.2.1.2.1.below hbC).below hb, (HP4.out.2.1.2.2.below hbC).below hb, (hv.below hbB).below hb, hbw⟩
      have hgW := HG.out W (Below.refl _ _)
      have hcx : W.cell? ⟨w.heap.size, 1 + x, none⟩ = some (.int .i64 0) := by
        have := (HI.out W (Below.refl _ _)).1.refs hgW.1 x64
        rwa [HQ.out] at this
      rw [hW] at hgW hcx
      have HGW : Hid _ := hgW
      clear hb5 hbB hbC hbW hv HP4 HIN HT HS HD HE hgW
      go_wp2_with (first
        | (refine wpList_store_row rfl 25 (.tmp 10) _ rfl w5.heap.size V rfl rfl 25 _ (heap_alloc_new w5 _) HV.out.1 (by rw [HV.out.2.1]; exact zero_size) HV.out.2.2 ?_; rw [World.setRow_alloc_new])
        | (refine wpList_load_row_g 25 (.tmp 8) rfl (by first | rfl | simp [Region.wanted, yielded, Act.put]) w4.heap.size rfl 25 U (0, 0) _ HGW.out.2.2.2.1 Try.underlying25 rfl HU.out.1 ?_)
        | (refine wpList_load_row_g 25 (.tmp 3) rfl (by first | rfl | simp [Region.wanted, yielded, Act.put]) w2.heap.size rfl 25 Y (0, 0) _ HGW.out.2.1 Try.underlying25 rfl HY.out.1 ?_))
      rw [← hW]
      clear hW hcx HGW
      have h5 := HI.out W (Below.refl _ _)
      refine (same_pool W h5.2.2.2.1 h5.2.1).mono ?_
      rintro e w6 ⟨rfl, hb6⟩
      have HG6 : Hid _ := HG.out w6 hb6
      have h6 := HI.out w6 hb6
      clear h5
      go_wp2_with (first
        | (refine wpList_load_row_g 25 (.tmp 10) rfl (by first | rfl | simp [Region.wanted, yielded, Act.put]) w5.heap.size rfl 25 V (0, 0) _ HG6.out.2.2.2.2 Try.underlying25 rfl HV.out.1 ?_)
        | (refine wpList_load_row_g 25 (.tmp 1) rfl (by first | rfl | simp [Region.wanted, yielded, Act.put]) w.heap.size rfl 25 X (0, 0) _ HG6.out.1 Try.underlying25 rfl HXF.out.1 ?_))
      refine (same_pool w6 h6.2.2.2.2.1 h6.1).mono ?_
      rintro e w7 ⟨rfl, hb7⟩
      have hbb7 := bel_next hb7 hb6
      have HG7 : Hid _ := HG.out w7 hbb7
      have h7 := HI.out w7 hbb7
      clear h6 hb7 HG6
      go_wp2_with (refine wpList_load_row_g 25 (.tmp 3) rfl (by first | rfl | simp [Region.wanted, yielded, Act.put]) w2.heap.size rfl 25 Y (0, 0) _ HG7.out.2.1 Try.underlying25 rfl HY.out.1 ?_)
      refine (HRT.out _ _ _ (Or.inl rfl) h7.2.1).mono ?_
      rintro e w8 ⟨rfl, hb8⟩
      have hbb8 := bel_next hb8 hbb7
      have HG8 : Hid _ := HG.out w8 hbb8
      have h8 := HI.out w8 hbb8
      clear h7 hb8 HG7
      go_wp2_with (refine wpList_load_row_g 25 (.tmp 6) rfl (by first | rfl | simp [Region.wanted, yielded, Act.put]) w3.heap.size rfl 25 Z (0, 0) _ HG8.out.2.2.1 Try.underlying25 rfl HZ.out.1 ?_)
      refine (HRT.out _ _ _ (Or.inr rfl) h8.2.2.1).mono ?_
      rintro e w9 ⟨rfl, hb9⟩
      go_wp2
      go_ret
      exact ⟨rfl, bel_next hb9 h8.2.2.2.2.2⟩
    · obtain ⟨h4, hl⟩ := take_none (poolB_right hp) hE
      have hpe : ptE l R = 4 := by simp [ptE, hp, h4]
      have hvn := HLEN.out hl
      subst hvn
      have HT : Hid (∀ w1, Below w.heap.size w w1 → Calls Try.prog 6 #[.agg X] w1 fun e w' => ∃ Y n, e = .returned (.tuple #[.agg Y, .int .i64 n, .int .i64 4]) ∧ ((Try.prog.info? 25).map (·.size) = some Y.size ∧ Y.size = 65 ∧ Y.all (·.oneCell') = true) ∧ Below w1.heap.size w1 w') := fun w1 hb => by
        refine (take_pool' w1 (HIN.out w1 hb)).mono ?_
        rintro e w2 ⟨Y, rfl, h1, -, h2⟩
        exact ⟨Y, _, by rw [hpe], h1.facts, h2⟩
      clear hp hpe h4 hl hE
      go_enter Try.func4, Try.ntmps4
      go_wp2_with fail
      rw [← hw0] at hbA hgA ⊢
      clear hw0
      refine (alive13_any w0).mono ?_
      rintro e w1 ⟨rfl, hb1⟩
      have hg1 := heap_below hgA hb1
      have hbb1 := hbA.trans (hb1.mono hbA.size)
      clear hgA hbA hb1
      go_wp2_with (refine wpList_load_row rfl 25 (.tmp 1) rfl w.heap.size rfl 25 X (0, 0) _ hg1 Try.underlying25 rfl HXF.out.1 ?_)
      refine (HT.out _ hbb1).mono ?_
      rintro e w2 ⟨Y, n, rfl, hy, hb2⟩
      have hg2 := heap_below hg1 hb2
      have hbb2 := hbb1.trans (hb2.mono hbb1.size)
      have HY : Hid _ := hy
      have hbB : Below w2.heap.size w2 (w2.alloc (.cells Y 25)) := (Below.refl _ _).alloc (Nat.le_refl _) _
      have hg3 := heap_below hg2 hbB
      have hbb3 := hbb2.trans (hbB.mono hbb2.size)
      have hcf : (w2.alloc (.cells Y 25)).cell? ⟨w.heap.size, 0, none⟩ = some (.slice va 0 vc) := by rw [cell_of_row _ _ _ _ _ _ hg3, hx0]
      clear hg1 hbb1 hg2 hbb2 hb2 hbB hy
      go_wp2_with (refine wpList_store_row rfl 25 (.tmp 3) _ rfl w2.heap.size Y rfl rfl 25 _ (heap_alloc_new w2 _) HY.out.1 (by rw [HY.out.2.1]; exact zero_size) HY.out.2.2 ?_; rw [World.setRow_alloc_new])
      go_ret
      exact ⟨rfl, hbb3⟩

end Go.Proofs.Yticmloddkngfnah

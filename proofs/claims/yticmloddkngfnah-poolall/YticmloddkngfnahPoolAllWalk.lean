/- All can be taken, and no more, each once, as many as are free: framewardenkeep.PoolAll returns true at every pool within the form's own reach. -/
import Derived.Test.YticmloddkngfnahAlive13
namespace Go.Proofs.Yticmloddkngfnah
open Go.RowKit
set_option linter.unusedSimpArgs false
set_option linter.unusedVariables false

/-- Take, while one is left. -/
theorem take_more {Y : Array Value} {l : List (Int × Int)} {R : Nat → Int} {m : Nat} (w : World) (h : IsPool w Y l R) (hp : poolB l R = true) (hc : cnt0 R 64 = m + 1) :
    ∃ x : Nat, x < 64 ∧ R x = 0 ∧ poolB (takeL l 0) (updR R x 1) = true ∧ cnt0 (updR R x 1) 64 = m ∧ Calls Try.prog 6 #[.agg Y] w fun e w' => ∃ Z, e = .returned (.tuple #[.agg Z, .int .i64 (x : Int), .int .i64 0]) ∧ IsPool w' Z (takeL l 0) (updR R x 1) ∧ Lies w.heap.size w'.heap.size Z (takeL l 0) ∧ Below w.heap.size w w' := by
  obtain ⟨hE, h1, h2, h3⟩ := all_more hp hc
  have hx := take_at hE
  obtain ⟨x, hxe⟩ : ∃ x : Nat, takeAt l 0 = x := ⟨(takeAt l 0).toNat, by omega⟩
  rw [hxe, Int.toNat_natCast] at h1 h2 h3
  have hpe : ptE l R = 0 := by simp [ptE, hp, hE]
  refine ⟨x, by omega, h1, h2, h3, (take_pool' w h).mono ?_⟩
  rintro e w' ⟨Z, rfl, a, b, c⟩
  have hN : ptN l R = (x : Int) ∧ ptL l R = takeL l 0 ∧ ptR l R = updR R x 1 := ⟨by simp [ptN, hpe, hxe], by simp [ptL, hpe], by simp [ptR, hpe, hxe]⟩
  rw [hN.2.1, hN.2.2] at a
  rw [hN.2.1] at b
  exact ⟨Z, by rw [hN.1, hpe], a, b, c⟩

/-- Take, where none is left. -/
theorem take_last {Y : Array Value} {l : List (Int × Int)} {R : Nat → Int} (w : World) (h : IsPool w Y l R) (hp : poolB l R = true) (hc : cnt0 R 64 = 0) :
    Calls Try.prog 6 #[.agg Y] w fun e w' => ∃ Z n, e = .returned (.tuple #[.agg Z, .int .i64 n, .int .i64 4]) ∧ ((Try.prog.info? 25).map (·.size) = some Z.size ∧ Z.size = 65 ∧ Z.all (·.oneCell') = true) ∧ Below w.heap.size w w' := by
  have hpe : ptE l R = 4 := by simp [ptE, hp, all_none hp hc]
  refine (take_pool' w h).mono ?_
  rintro e w' ⟨Z, rfl, a, -, c⟩
  exact ⟨Z, _, by rw [hpe], a.facts, c⟩

set_option maxRecDepth 100000 in
set_option maxHeartbeats 6400000 in
theorem poolAll_walk (v : Value) (l : List (Int × Int)) (R : Nat → Int) (w : World) (h : IsBlocks w v l) (hR : ∀ i : Nat, i < 64 → R i ≤ 9223372036854775807) :
    Calls Try.prog 5 #[.agg (poolC v R).toArray] w fun e w' => e = .returned (.bool true) ∧ Below w.heap.size w w' := by
  have HIN : Hid (∀ w1, Below w.heap.size w w1 → IsPool w1 (poolC v R).toArray l R) := fun w1 hb => ⟨v, rfl, h.below hb⟩
  have HXF : Hid _ := (HIN.out w (Below.refl _ _)).facts
  have HNM : Hid (∀ w1 : World, w1.heap[w.heap.size]? = some (.cells (poolC v R).toArray 25 (0, 0)) → w1.rangeAt w.heap.size 1 (numsL R)) := fun w1 h => OwnRow.nums (v := v) (e := 25) h
  obtain ⟨X, hX⟩ : ∃ X, Hid (X = (poolC v R).toArray) := ⟨_, rfl⟩
  rw [← hX.out] at HIN HXF HNM ⊢
  clear h hX hR
  have hbA : Below w.heap.size w (w.alloc (.cells X 25)) := (Below.refl _ _).alloc (Nat.le_refl _) _
  have hgA : (w.alloc (.cells X 25)).heap[w.heap.size]? = some (.cells X 25 (0, 0)) := heap_alloc_new w _
  obtain ⟨w0, hw0⟩ : ∃ w0, w0 = w.alloc (.cells X 25) := ⟨_, rfl⟩
  have hzv := zero_value
  have hzs := zero_size
  have hzn := zero_ne
  have HRT : Hid (∀ w1, Below w.heap.size w w1 → Calls Try.prog 14 #[.agg X] w1 fun e w' => e = .returned (.bool (poolB l R)) ∧ Below w1.heap.size w1 w') := fun w1 hb => right_pool w1 (HIN.out w1 hb)
  cases hp : poolB l R with
  | false =>
    rw [hp] at HRT
    clear hp
    go_enter Try.func5, Try.ntmps5
    go_wp2_with fail
    rw [← hw0] at hbA hgA ⊢
    clear hw0
    refine (alive13_any w0).mono ?_
    rintro e w1 ⟨rfl, hb1⟩
    have hg1 := heap_below hgA hb1
    have hbb1 := hbA.trans (hb1.mono hbA.size)
    clear hgA hbA hb1
    go_wp2_with (refine wpList_load_row rfl 25 (.tmp 1) rfl w.heap.size rfl 25 X (0, 0) _ hg1 Try.underlying25 rfl HXF.out.1 ?_)
    refine (HRT.out _ hbb1).mono ?_
    rintro e w2 ⟨rfl, hb2⟩
    go_wp2
    go_ret
    exact ⟨rfl, bel_next hb2 hbb1⟩
  | true =>
    rw [hp] at HRT
    have HP : Hid (poolB l R = true) := hp
    clear hp
    go_enter Try.func5, Try.ntmps5
    go_wp2_with fail
    rw [← hw0] at hbA hgA ⊢
    clear hw0
    refine (alive13_any w0).mono ?_
    rintro e w1 ⟨rfl, hb1⟩
    have hg1 := heap_below hgA hb1
    have hbb1 := hbA.trans (hb1.mono hbA.size)
    clear hgA hbA hb1
    go_wp2_with (refine wpList_load_row rfl 25 (.tmp 1) rfl w.heap.size rfl 25 X (0, 0) _ hg1 Try.underlying25 rfl HXF.out.1 ?_)
    refine (HRT.out _ hbb1).mono ?_
    rintro e w2 ⟨rfl, hb2⟩
    have hg2 := heap_below hg1 hb2
    have hbb2 := bel_next hb2 hbb1
    clear hg1 hbb1 hb2 HRT
    have HRG := HNM.out _ hg2
    obtain ⟨L, hL⟩ : ∃ L, Hid (L = numsL R) := ⟨_, rfl⟩
    have HLG : Hid (∀ i, i < 64 → L.toArray[i]? = some (.int .i64 (R i))) := fun i hi => by rw [hL.out]; simpa using numsL_get R i hi
    have HSN : Hid ((Try.prog.info? 23).map (·.size) = some L.length) := by show _ = _; rw [info_nums, hL.out, numsL_len]
    rw [← hL.out] at HRG
    have HRG2 : Hid _ := HRG
    have H2 : Hid (_ ∧ _) := ⟨hg2, hbb2⟩
    clear hL HRG hg2 hbb2 HNM
    go_wp2_with (refine wpList_load_mid rfl 23 (.tmp 17) rfl w.heap.size 1 rfl L _ HRG2.out Try.underlying23 rfl HSN.out ?_)
    go_loop [3, 19] (fun m i => ∃ k : Nat, k ≤ 64 ∧ i = .int .i64 k ∧ m = .int .i64 (cnt0 R k : Nat)) (fun _ i => 64 - (intOf i).toNat)
    case atStart => exact ⟨0, Nat.zero_le _, rfl, rfl⟩
    case round =>
      obtain ⟨k, hk, rfl, rfl⟩ := hrel
      by_cases hlt : k < 64
      · have hidx := index_nums L.toArray k _ hlt (HLG.out k hlt)
        have HC : Hid (cnt0 R (k + 1) = cnt0 R k + if R k = 0 then 1 else 0) := rfl
        have hcl := cnt0_le R k
        generalize R k = r at *
        by_cases h0 : r = 0
        · have HC2 : Hid (cnt0 R (k + 1) = cnt0 R k + 1) := by show _ = _; rw [HC.out, if_pos h0]
          generalize cnt0 R k = c at *
          subst h0
          clear HC
          go_wp2
          refine ⟨⟨k + 1, by omega, by go_num, ?_⟩, by simp [intOf]; omega⟩
          rw [HC2.out]
          go_num
        · have HC2 : Hid (cnt0 R (k + 1) = cnt0 R k) := by show _ = _; rw [HC.out, if_neg h0]; rfl
          have hd : (r == 0) = false := by simpa using h0
          generalize cnt0 R k = c at *
          clear HC
          go_wp2
          exact ⟨⟨k + 1, by omega, by go_num, by rw [HC2.out]⟩, by simp [intOf]; omega⟩
      · obtain rfl : k = 64 := by omega
        obtain ⟨N, hN⟩ : ∃ N, Hid (cnt0 R 64 = N) := ⟨_, rfl⟩
        have hN64 : N ≤ 64 := by have := cnt0_le R 64; rw [hN.out] at this; exact this
        rw [hN.out]
        have HX2 : Hid (IsPool w2 X l R) := HIN.out _ H2.out.2
        have HS : Hid (∃ Y l' R', IsPool w2 Y l' R' ∧ poolB l' R' = true ∧ cnt0 R' 64 + 0 = N ∧ w2.heap[w.heap.size]? = some (.cells Y 25 (0, 0)) ∧ Below w.heap.size w w2) := ⟨X, l, R, HX2.out, HP.out, hN.out, H2.out.1, H2.out.2⟩
        clear HIN HXF HP HLG HSN HRG2 H2 HX2 hN
        go_wp2_with fail
        go_loopw [28] (fun i wr => ∃ j : Nat, j ≤ N ∧ i = .int .i64 j ∧ Hid (∃ Y l' R', IsPool wr Y l' R' ∧ poolB l' R' = true ∧ cnt0 R' 64 + j = N ∧ wr.heap[w.heap.size]? = some (.cells Y 25 (0, 0)) ∧ Below w.heap.size w wr)) (fun i _ => N - (intOf i).toNat)
        case atStart => exact ⟨0, Nat.zero_le _, rfl, HS.out⟩
        clear HS
        case round =>
          obtain ⟨j, hj, rfl, hH⟩ := hrel
          obtain ⟨Y, l', R', hy, hpb, hcn, hg, hbel⟩ := hH.out
          have HYF : Hid _ := hy.facts
          have hzw : w.heap.size < wr.heap.size := (Array.getElem?_eq_some_iff.1 hg).1
          clear hH
          by_cases hlt : j < N
          · obtain ⟨m, hm⟩ : ∃ m, cnt0 R' 64 = m + 1 := ⟨N - j - 1, by omega⟩
            obtain ⟨x, x64, hx0, hpb2, hcn2, HT⟩ := take_more wr hy hpb hm
            have HT' : Hid _ := HT
            have HPB : Hid (poolB (takeL l' 0) (updR R' x 1) = true ∧ cnt0 (updR R' x 1) 64 + (j + 1) = N) := ⟨hpb2, by omega⟩
            have hcp := hy.refs hg x64
            rw [hx0] at hcp
            have HU : Hid (updR R' x 1 x = 1) := updR_self _ _ _
            clear HT hpb hpb2 hm hcn hcn2 hx0 hy
            generalize takeL l' 0 = M at *
            generalize updR R' x 1 = R1 at *
            go_wp2_with (refine wpList_load_row rfl 25 (.tmp 1) rfl w.heap.size rfl 25 Y (0, 0) _ hg Try.underlying25 rfl HYF.out.1 ?_)
            refine (Calls.mono HT'.out ?_)
            rintro e w3 ⟨Z, rfl, hz, hli, hb3⟩
            have HZF : Hid _ := hz.facts
            have hs3 := hb3.size
            have hbB : Below w3.heap.size w3 (w3.alloc (.cells Z 25)) := (Below.refl _ _).alloc (Nat.le_refl _) _
            have hbC := hb3.trans (hbB.mono hb3.size)
            have hcp4 := (hbC.cell (cell_lt hcp)).trans hcp
            have hg4 := heap_below hg hbC
            have hz4 := hz.below hbB
            have hgz : (w3.alloc (.cells Z 25)).heap[w3.heap.size]? = some (.cells Z 25 (0, 0)) := heap_alloc_new w3 _
            have hcz := hz4.refs hgz x64
            rw [HU.out] at hcz
            have HG : Hid (_ ∧ _) := ⟨hg4, hgz⟩
            have HEND : Hid (∃ Y l' R', IsPool ((w3.alloc (.cells Z 25)).setRow w.heap.size Z) Y l' R' ∧ poolB l' R' = true ∧ cnt0 R' 64 + (j + 1) = N ∧ ((w3.alloc (.cells Z 25)).setRow w.heap.size Z).heap[w.heap.size]? = some (.cells Y 25 (0, 0)) ∧ Below w.heap.size w ((w3.alloc (.cells Z 25)).setRow w.heap.size Z)) :=
              ⟨Z, M, R1, hz4.setRow hli (Or.inl hzw) _, HPB.out.1, HPB.out.2, setRow_heap _ _ _ _ _ _ hg4, below_setRow (bel_next hbC hbel) (Nat.le_refl _) _⟩
            clear hz hli hb3 hbB hbC hcp hz4 hg4 hgz HU HPB HT' hg hbel
            go_wp2_with (first
              | (refine wpList_store_row rfl 25 (.tmp 6) _ rfl w3.heap.size Z rfl rfl 25 _ (heap_alloc_new w3 _) HZF.out.1 (by rw [HZF.out.2.1]; exact zero_size) HZF.out.2.2 ?_; rw [World.setRow_alloc_new])
              | (refine wpList_load_row rfl 25 (.tmp 6) rfl w3.heap.size rfl 25 Z (0, 0) _ HG.out.2 Try.underlying25 rfl HZF.out.1 ?_)
              | (refine wpList_store_row rfl 25 (.tmp 1) _ rfl w.heap.size Z rfl rfl 25 _ HG.out.1 HZF.out.1 (by rw [HZF.out.2.1, HYF.out.2.1]) HZF.out.2.2 ?_))
            exact ⟨⟨j + 1, by omega, by go_num, HEND.out⟩, by simp [intOf]; omega⟩
          · obtain rfl : j = N := by omega
            have HT' : Hid _ := take_last wr hy hpb (by omega)
            clear hy hpb hcn
            go_wp2_with (refine wpList_load_row rfl 25 (.tmp 1) rfl w.heap.size rfl 25 Y (0, 0) _ hg Try.underlying25 rfl HYF.out.1 ?_)
            refine (Calls.mono HT'.out ?_)
            rintro e w3 ⟨Z, n, rfl, hz, hb3⟩
            have HZF : Hid _ := hz
            have hbb3 := bel_next hb3 hbel
            have hbB : Below w.heap.size w (w3.alloc (.cells Z 25)) := bel_next ((Below.refl _ _).alloc (Nat.le_refl _) _) hbb3
            clear hz hb3 hbb3 HT' hg hbel
            go_wp2_with (refine wpList_store_row rfl 25 (.tmp 9) _ rfl w3.heap.size Z rfl rfl 25 _ (heap_alloc_new w3 _) HZF.out.1 (by rw [HZF.out.2.1]; exact zero_size) HZF.out.2.2 ?_; rw [World.setRow_alloc_new])
            go_ret
            exact ⟨rfl, hbB⟩

end Go.Proofs.Yticmloddkngfnah

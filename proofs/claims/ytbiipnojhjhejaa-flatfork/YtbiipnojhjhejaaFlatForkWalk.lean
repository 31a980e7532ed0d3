/- The walk of FlatFork: a child is like its parent. -/
import Derived.Test.YtbiipnojhjhejaaFlatBl
import Derived.Test.YtbiipnojhjhejaaFlatOthers
namespace Go.Proofs.Ytbiipnojhjhejaa
set_option maxRecDepth 100000
open Go.RowKit
set_option linter.unusedSimpArgs false
set_option linter.unusedVariables false

theorem getD_snoc' {α : Type} (A : List α) (x z : α) (n : Nat) (hn : n = A.length) : (A ++ [x]).getD n z = x := by
  subst hn
  simp [List.getD_eq_getElem?_getD]

set_option maxRecDepth 100000 in
set_option maxHeartbeats 3200000 in
theorem flatFork_walk (v : Value) (l : List O12) (proc : Int) (w : World) (h : IsRecs encO 1466015503658 w v l) (hwf : ∀ x ∈ l, wfO x) (_hp : (Lit.int .i64 proc).wf = true) :
    Calls Try.prog 4 #[v, .int .i64 proc] w fun e w' => e = .returned (.bool true) ∧ Below w.heap.size w w' := by
  obtain ⟨a, cap, rfl⟩ := h.form
  obtain ⟨i0, hi0, hz0, hz1, hz2⟩ := info_parts info_opz
  obtain ⟨o, ho⟩ : ∃ o, o = (⟨8, proc, 0, 0, 0, 0, false, 0, 0, 0, 0, 0⟩ : O12) := ⟨_, rfl⟩
  have HRUN : Hid (∀ w1, Below w.heap.size w w1 → Calls Try.prog 9 #[.slice a l.length cap] w1 fun e w' => ∃ a2 c2 X, e = .returned (.tuple #[.slice a2 l.length c2, .agg X]) ∧ IsRecs encA 2932031007400 w' (.slice a2 l.length c2) (run14 newW l).2 ∧ Below w1.heap.size w1 w' ∧ X.size = 44 ∧ X.all (·.oneCell') = true ∧
      ∀ w2, w2 = w'.alloc (.cells X 34) → IsW w1.heap.size w2 w'.heap.size (run14 newW l).1) := fun w1 hb => run14_keep _ l _ w1 (h.below hb) (by decide) (fun o ho => ⟨(hwf o ho).count, (hwf o ho).size⟩)
  have hlen := h.len
  have HRU2 : Hid (∀ base w1 v1, OwnR 24 12 encO base w1 v1 (l ++ [o]) → Calls Try.prog 9 #[v1] w1 fun e w' => ∃ a2 c2 X b4, e = .returned (.tuple #[.slice a2 (l ++ [o]).length c2, .agg X]) ∧ OwnR 40 4 encA b4 w' (.slice a2 (l ++ [o]).length c2) (run14 newW (l ++ [o])).2 ∧ Below w1.heap.size w1 w' ∧ ShowX b4 w' (run14 newW (l ++ [o])).1 X) := fun base w1 v1 h1 => run14_showb _ (l ++ [o]) 1466015503700 w1 (h1.recs (by simp; omega)) (by decide) (fun x hx => by
        rcases List.mem_append.1 hx with hx | hx
        · exact ⟨(hwf x hx).count, (hwf x hx).size⟩
        · rw [List.mem_singleton] at hx; rw [hx, ho]; exact ⟨⟨by simp, by simp⟩, ⟨by simp, by simp⟩⟩)
  have HCl : Hid (∀ w1, Below w.heap.size w w1 → Calls Try.prog 10 #[.slice a l.length cap] w1 fun e w' => ∃ v', e = .returned v' ∧ OwnR 24 12 encO w1.heap.size w' v' l ∧ Below w1.heap.size w1 w') := fun w1 hb => oclone_any _ l w1 (h.below hb)
  have HI : Hid (Inv (run14 newW l).1) := inv_run inv_new
  have HD := run14_snoc l o newW
  rw [HD] at HRU2
  have hAl := run14_len l newW
  have HFK : Hid ((do14 (run14 newW l).1 o).2.1 = 0 → 0 ≤ proc ∧ proc ≤ 3 ∧ ∃ c : Nat, c < 4 ∧ (do14 (run14 newW l).1 o).2.2.1 = c ∧ ((run14 newW l).1 c).live = false ∧ (do14 (run14 newW l).1 o).1 c = (run14 newW l).1 proc.toNat ∧ ∀ i, i ≠ c → (do14 (run14 newW l).1 o).1 i = (run14 newW l).1 i) := fun h0 => by
    have := do_fork (S := (run14 newW l).1) (o := o) (by rw [ho]) h0
    have e : o.proc = proc := by rw [ho]
    rw [e] at this
    exact this
  generalize (run14 newW l).1 = S at *
  generalize (run14 newW l).2 = A at *
  generalize do14 S o = D at *
  obtain ⟨S', d1, d2, d3, d4⟩ := D
  simp only at HRU2 HFK
  subst ho
  have hN1 : (l ++ [(⟨8, proc, 0, 0, 0, 0, false, 0, 0, 0, 0, 0⟩ : O12)]).length = l.length + 1 := by simp
  rw [hN1] at HRU2
  have hl1 : (l.length + 1) * 96 ≤ 140737488355328 := by omega
  have hl2 : l.length + 1 ≤ maxLen := by unfold maxLen; omega
  have HL1 : Hid ((l.length + 1) * 96 ≤ 140737488355328) := hl1
  have HL2 : Hid (l.length + 1 ≤ maxLen) := hl2
  obtain ⟨n, hn⟩ : ∃ n, Hid (n = l.length) := ⟨_, rfl⟩
  rw [← hn.out] at HRUN HRU2 HCl hlen hAl
  rw [← hn.out]
  have HGET : Hid ((A ++ [(d1, d2, d3, d4)]).getD n zAn = (d1, d2, d3, d4)) := getD_snoc' _ _ _ _ hAl.symm
  have HA2 : Hid ((A ++ [(d1, d2, d3, d4)]).length = n + 1) := by show _ = _; simp; omega
  have HALEN : Hid (n < (A ++ [(d1, d2, d3, d4)]).length) := by show _ < _; simp; omega
  clear h hwf HD hl1 hl2 hN1 hAl
  go_enter Try.func4, Try.ntmps4
  go_wp2_with (first
    | (refine wpList_store_row rfl 34 (.tmp 6) _ rfl w2.heap.size X rfl rfl 34 _ (heap_alloc_new w2 _) (info_procs' HX.out.1) (by rw [HX.out.1]; rfl) HX.out.2 ?_; rw [World.setRow_alloc_new]; obtain ⟨W0, hA⟩ : ∃ wA, wA = w2.alloc (.cells X 34) := ⟨_, rfl⟩; rw [← hA]; have HWA : Hid (IsW w1.heap.size W0 w2.heap.size S) := hW W0 hA; have hgA : W0.heap[w2.heap.size]? = some (.cells X 34 (0, 0)) := (by rw [hA]; exact heap_alloc_new w2 _); have hbA1 : Below w1.heap.size w1 W0 := (by rw [hA]; exact hb2.trans ((Below.refl _ _).alloc hb2.size _)); clear hA hW)
    | (go_at_call 8; refine (alive14_any _).mono ?_; rintro e w1 ⟨rfl, hb1⟩)
    | (go_at_call 9; refine (HRUN.out _ hb1).mono ?_; rintro e w2 ⟨a2, c2, X, rfl, -, hb2, hx1, hx2, hW⟩; have HX : Hid (X.size = 44 ∧ X.all (·.oneCell') = true) := ⟨hx1, hx2⟩; clear hx1 hx2))
  have hb0 : Below w.heap.size w W0 := hb1.trans (hbA1.mono hb1.size)
  have HS0 : Hid (∀ w', Below W0.heap.size W0 w' → Below W0.heap.size W0 w') := fun w' hb => hb
  have HCl0 : Hid _ := HCl
  clear HCl
  have HCl : Hid (∀ w1, Below W0.heap.size W0 w1 → Calls Try.prog 10 #[.slice a n cap] w1 fun e w' => ∃ v', e = .returned v' ∧ OwnR 24 12 encO W0.heap.size w' v' l ∧ Below w1.heap.size w1 w' ∧ W0.heap.size ≤ w'.heap.size) := fun w1 hb => by
    refine (HCl0.out w1 (hb0.trans (hb.mono hb0.size))).mono ?_
    rintro e w' ⟨v', he, ho, hb2⟩
    exact ⟨v', he, ho.mono hb.size, hb2, Nat.le_trans hb.size hb2.size⟩
  have HN : Hid (n ≤ 1466015503658 ∧ (A ++ [(d1, d2, d3, d4)]).length = n + 1) := ⟨hlen, HA2.out⟩
  clear HCl0 hlen hb1 hb2 hbA1 HA2
  have HX0 : Hid (ShowX w1.heap.size W0 S X) := HWA.out.show hgA
  have HGA : Hid (W0.heap[w2.heap.size]? = some (.cells X 34 (0, 0)) ∧ w2.heap.size < W0.heap.size) := ⟨hgA, (Array.getElem?_eq_some_iff.1 hgA).1⟩
  obtain ⟨bX, hbX⟩ : ∃ b, w2.heap.size = b := ⟨_, rfl⟩
  obtain ⟨zX, hzX⟩ : ∃ b, w1.heap.size = b := ⟨_, rfl⟩
  rw [hbX] at HGA ⊢
  rw [hzX] at HX0
  clear hbX hzX hgA HWA w1 w2
  refine (HCl.out _ (Below.refl _ _)).mono ?_
  rintro e w2 ⟨v2, rfl, ho2, hw2, hbs2⟩
  go_wp2_with (at_builtin; refine wpList_append_rec shO rfl _ _ 22 24 i0 _ 96 rfl Try.underlying22 hi0 hz0 hz1 hz2 rfl W0.heap.size v2 l rfl w2 ho2 ((Below.refl _ _).alloc (Nat.le_refl _) _) hbs2 HL1.out HL2.out (⟨8, proc, 0, 0, 0, 0, false, 0, 0, 0, 0, 0⟩ : O12) _ 1 rfl (box_ops w2 _ _ rfl (⟨8, proc, 0, 0, 0, 0, false, 0, 0, 0, 0, 0⟩ : O12) _ (Below.refl _ _)) ?_; intro v3 w3 hown3 hb3; have hbs3 : W0.heap.size ≤ w3.heap.size := (by have := hb3.size; simp at this; omega))
  refine (HRU2.out _ _ _ hown3).mono ?_
  rintro e w4 ⟨a4, c4, Y, base4, rfl, ho4, hw4, hs4⟩
  have HY : Hid ((Try.prog.info? 34).map (·.size) = some Y.size ∧ Y.size = 44 ∧ Y.all (·.oneCell') = true) := show_facts hs4
  have hbs4 : W0.heap.size ≤ w4.heap.size := (by have := hw4.size; omega)
  obtain ⟨w', hA⟩ : ∃ wA, wA = w4.alloc (.cells Y 34) := ⟨_, rfl⟩
  have hgY : w'.heap[w4.heap.size]? = some (.cells Y 34 (0, 0)) := by rw [hA]; exact heap_alloc_new w4 _
  have hb4' : Below w4.heap.size w4 w' := by rw [hA]; exact (Below.refl _ _).alloc (Nat.le_refl _) _
  have hsY : ShowX base4 w' S' Y := hs4.below hb4'
  have hoY : OwnR 40 4 encA base4 w' (.slice a4 (n + 1) c4) (A ++ [(d1, d2, d3, d4)]) := ho4.below hb4'
  have hbW : Below W0.heap.size W0 w' := (((hw2.trans (((Below.refl _ _).alloc (Nat.le_refl _) _).mono hw2.size)).trans hb3).trans (hw4.mono hbs3)).trans (hb4'.mono hbs4)
  have HA : Hid (w4.alloc (.cells Y 34) = w') := hA.symm
  clear hA hs4 ho4 hb4' hw4 hb3 hown3 hw2 ho2
  have hgX : w'.heap[bX]? = some (.cells X 34 (0, 0)) := (hbW.block _ HGA.out.2).trans HGA.out.1
  have HSX := show_facts HX0.out
  have HSY := show_facts hsY
  have hbw : Below w.heap.size w w' := hb0.trans (hbW.mono hb0.size)
  have hrec := hoY.recs (B := 2932031007400) (by rw [HN.out.2]; have := HN.out.1; omega)
  obtain ⟨aa, ac, hv, -, -, hcc⟩ := hrec
  injection hv with hv1 hv2 hv3
  subst hv1
  clear hv2 hv3
  obtain ⟨b, off, rfl, hc⟩ := hcc (Nat.lt_of_le_of_lt (Nat.zero_le _) HALEN.out)
  have hd := recs_cell shA hc zAn n 0 HALEN.out (by decide) (u := .int .i64 d1) (by rw [HGET.out]; rfl)
  have hdv := recs_cell shA hc zAn n 1 HALEN.out (by decide) (u := .int .i64 d2) (by rw [HGET.out]; rfl)
  rw [Nat.add_zero] at hd
  have hn64 := HN.out.1
  by_cases hd1 : d1 = 0
  · subst hd1
    obtain ⟨hp0, hp3, k, hk4, hk, hkl, hkp, hks⟩ := HFK.out rfl
    obtain ⟨p, rfl⟩ : ∃ p : Nat, proc = p := ⟨proc.toNat, by omega⟩
    have hp4 : p < 4 := by omega
    rw [Int.toNat_natCast] at hkp
    have HO : Hid (∀ w1, Below w'.heap.size w' w1 → Calls Try.prog 11 #[.agg X, .agg Y, .int .i64 (k : Int)] w1 fun e w2 => e = .returned (.bool true) ∧ Below w1.heap.size w1 w2) := fun w1 hb => by
      have hb1 := hbW.trans (hb.mono hbW.size)
      exact others_any zX base4 S S' X Y (k : Int) w1 (HX0.out.below hb1) (hsY.below hb) HI.out.1 (fun i _ hne => hks i (by omega))
    obtain ⟨a5, n5, c5, a6, n6, c6, hs1, hc1⟩ := (hsY).at hk4
    obtain ⟨a7, n7, c7, a8, n8, c8, hs2, hc2⟩ := (HX0.out.below hbW).at hp4
    obtain ⟨a9, n9, c9, a10, n10, c10, hs3, hc3⟩ := (HX0.out.below hbW).at hk4
    rw [hkp] at hs1 hc1
    have hf := (HI.out.1 p).few
    have HSM : Hid (∀ w1, Below w'.heap.size w' w1 → Calls Try.prog 12 #[.agg (procC (S p) (.slice a5 n5 c5) (.slice a6 n6 c6)).toArray, .agg (procC (S p) (.slice a7 n7 c7) (.slice a8 n8 c8)).toArray] w1 fun e w' => e = .returned (.bool true) ∧ Below w1.heap.size w1 w') := fun w1 hb => sameProc_any base4 zX (S p) a5 n5 c5 a6 n6 c6 a7 n7 c7 a8 n8 c8 w1 (hs1.below hb) (hs2.below hb) hf.1 hf.2
    have hlvk := hc3 bX w' hgX 0 _ rfl
    rw [hkl, Nat.add_zero] at hlvk
    clear hs1 hs2 hs3 hc3 hf hks
    obtain ⟨pp, hpp⟩ : ∃ pp, pp = S p := ⟨_, rfl⟩
    rw [← hpp] at HSM hc1 hc2
    clear hpp hkp hkl
    obtain ⟨lv, L, ⟨t0, d0, t1, e1, t2, e2, t3, e3⟩, B, T⟩ := pp
    have HSM2 : Hid (∀ w1, Below w'.heap.size w' w1 → Calls Try.prog 12 #[.agg #[.bool lv, .slice a5 n5 c5, .bool t0, .int .i64 d0, .bool t1, .int .i64 e1, .bool t2, .int .i64 e2, .bool t3, .int .i64 e3, .slice a6 n6 c6], .agg #[.bool lv, .slice a7 n7 c7, .bool t0, .int .i64 d0, .bool t1, .int .i64 e1, .bool t2, .int .i64 e2, .bool t3, .int .i64 e3, .slice a8 n8 c8]] w1 fun e w' => e = .returned (.bool true) ∧ Below w1.heap.size w1 w') := HSM
    have yC := hc1 w4.heap.size w' hgY
    have xC := hc2 bX w' hgX
    subst hk
    have q0 : decide ((k : Int) ≥ 0) = true := by simp
    have q1 : decide ((k : Int) < 4) = true := by simp; omega
    have q2 : decide ((p : Int) ≥ 0) = true := by simp
    have q3 : decide ((p : Int) < 4) = true := by simp; omega
    clear hc hcc hoY hsY HX0 HGA HI HS0 HCl HRU2 HRUN HGET HALEN hc1 hc2 HSM HFK
    go_wp2_with (first
      | (refine wpList_store_row rfl 34 (.tmp 8) _ rfl w4.heap.size Y rfl rfl 34 _ (heap_alloc_new w4 _) HY.out.1 (by rw [HY.out.2.1]; rfl) HY.out.2.2 ?_; rw [World.setRow_alloc_new, HA.out]))
    refine wp_region_calm (by kernel_rfl) (by kernel_rfl) (fun W hW _ => ?_)
    have hbWW : Below w'.heap.size w' W := by rw [hW]; exact Below.refl _ _
    have yWC : ∀ j u, (procC ⟨lv, L, (t0, d0, t1, e1, t2, e2, t3, e3), B, T⟩ (.slice a5 n5 c5) (.slice a6 n6 c6))[j]? = some u → W.cell? ⟨w4.heap.size, k * 11 + j, none⟩ = some u := by rw [hW]; exact yC
    have xWC : ∀ j u, (procC ⟨lv, L, (t0, d0, t1, e1, t2, e2, t3, e3), B, T⟩ (.slice a7 n7 c7) (.slice a8 n8 c8))[j]? = some u → W.cell? ⟨bX, p * 11 + j, none⟩ = some u := by rw [hW]; exact xC
    have zWC : ∀ u : Wd W, u.w.cell? ⟨bX, k * 11, none⟩ = some (.bool false) := fun u => u.cell (by rw [hW]; exact hlvk)
    have gWX : ∀ w1, (∃ u : Wd W, w1 = u.w) → w1.heap[bX]? = some (.cells X 34 (0, 0)) := fun w1 ⟨u, hu⟩ => by
      rw [hu, u.ok.block _ (by rw [hW]; exact (Array.getElem?_eq_some_iff.1 hgX).1), hW]; exact hgX
    have gWY : ∀ w1, (∃ u : Wd W, w1 = u.w) → w1.heap[w4.heap.size]? = some (.cells Y 34 (0, 0)) := fun w1 ⟨u, hu⟩ => by
      rw [hu, u.ok.block _ (by rw [hW]; exact (Array.getElem?_eq_some_iff.1 hgY).1), hW]; exact hgY
    have HGW : Hid ((∀ w1, (∃ u : Wd W, w1 = u.w) → w1.heap[bX]? = some (.cells X 34 (0, 0))) ∧ ∀ w1, (∃ u : Wd W, w1 = u.w) → w1.heap[w4.heap.size]? = some (.cells Y 34 (0, 0))) := ⟨gWX, gWY⟩
    clear hW xC yC gWX gWY
    have yW0 : ∀ u : Wd W, u.w.cell? ⟨w4.heap.size, k * 11, none⟩ = some (.bool lv) := fun u => u.cell (yWC 0 _ rfl)
    have yW1 : ∀ u : Wd W, u.w.cell? ⟨w4.heap.size, k * 11 + 1, none⟩ = some (.slice a5 n5 c5) := fun u => u.cell (yWC 1 _ rfl)
    have yW2 : ∀ u : Wd W, u.w.cell? ⟨w4.heap.size, k * 11 + 2, none⟩ = some (.bool t0) := fun u => u.cell (yWC 2 _ rfl)
    have yW3 : ∀ u : Wd W, u.w.cell? ⟨w4.heap.size, k * 11 + 3, none⟩ = some (.int .i64 d0) := fun u => u.cell (yWC 3 _ rfl)
    have yW4 : ∀ u : Wd W, u.w.cell? ⟨w4.heap.size, k * 11 + 4, none⟩ = some (.bool t1) := fun u => u.cell (yWC 4 _ rfl)
    have yW5 : ∀ u : Wd W, u.w.cell? ⟨w4.heap.size, k * 11 + 5, none⟩ = some (.int .i64 e1) := fun u => u.cell (yWC 5 _ rfl)
    have yW6 : ∀ u : Wd W, u.w.cell? ⟨w4.heap.size, k * 11 + 6, none⟩ = some (.bool t2) := fun u => u.cell (yWC 6 _ rfl)
    have yW7 : ∀ u : Wd W, u.w.cell? ⟨w4.heap.size, k * 11 + 7, none⟩ = some (.int .i64 e2) := fun u => u.cell (yWC 7 _ rfl)
    have yW8 : ∀ u : Wd W, u.w.cell? ⟨w4.heap.size, k * 11 + 8, none⟩ = some (.bool t3) := fun u => u.cell (yWC 8 _ rfl)
    have yW9 : ∀ u : Wd W, u.w.cell? ⟨w4.heap.size, k * 11 + 9, none⟩ = some (.int .i64 e3) := fun u => u.cell (yWC 9 _ rfl)
    have yW10 : ∀ u : Wd W, u.w.cell? ⟨w4.heap.size, k * 11 + 10, none⟩ = some (.slice a6 n6 c6) := fun u => u.cell (yWC 10 _ rfl)
    have xW0 : ∀ u : Wd W, u.w.cell? ⟨bX, p * 11, none⟩ = some (.bool lv) := fun u => u.cell (xWC 0 _ rfl)
    have xW1 : ∀ u : Wd W, u.w.cell? ⟨bX, p * 11 + 1, none⟩ = some (.slice a7 n7 c7) := fun u => u.cell (xWC 1 _ rfl)
    have xW2 : ∀ u : Wd W, u.w.cell? ⟨bX, p * 11 + 2, none⟩ = some (.bool t0) := fun u => u.cell (xWC 2 _ rfl)
    have xW3 : ∀ u : Wd W, u.w.cell? ⟨bX, p * 11 + 3, none⟩ = some (.int .i64 d0) := fun u => u.cell (xWC 3 _ rfl)
    have xW4 : ∀ u : Wd W, u.w.cell? ⟨bX, p * 11 + 4, none⟩ = some (.bool t1) := fun u => u.cell (xWC 4 _ rfl)
    have xW5 : ∀ u : Wd W, u.w.cell? ⟨bX, p * 11 + 5, none⟩ = some (.int .i64 e1) := fun u => u.cell (xWC 5 _ rfl)
    have xW6 : ∀ u : Wd W, u.w.cell? ⟨bX, p * 11 + 6, none⟩ = some (.bool t2) := fun u => u.cell (xWC 6 _ rfl)
    have xW7 : ∀ u : Wd W, u.w.cell? ⟨bX, p * 11 + 7, none⟩ = some (.int .i64 e2) := fun u => u.cell (xWC 7 _ rfl)
    have xW8 : ∀ u : Wd W, u.w.cell? ⟨bX, p * 11 + 8, none⟩ = some (.bool t3) := fun u => u.cell (xWC 8 _ rfl)
    have xW9 : ∀ u : Wd W, u.w.cell? ⟨bX, p * 11 + 9, none⟩ = some (.int .i64 e3) := fun u => u.cell (xWC 9 _ rfl)
    have xW10 : ∀ u : Wd W, u.w.cell? ⟨bX, p * 11 + 10, none⟩ = some (.slice a8 n8 c8) := fun u => u.cell (xWC 10 _ rfl)
    clear xWC yWC
    have HR2 : Hid (∀ u : Wd W, Below w'.heap.size w' u.w) := fun u => hbWW.trans (u.ok.mono hbWW.size)
    repeat (first
      | (refine wpQuiet_load_row (by kernel_rfl) 34 (.tmp 6) rfl bX 34 X (0, 0) _ rfl HGW.out.1 Try.underlying34 rfl HSX.1 ?_; simp only [Act.put, List.setIfInBounds_toArray, List.set_cons_zero, List.set_cons_succ])
      | (refine wpQuiet_load_row (by kernel_rfl) 34 (.tmp 8) rfl w4.heap.size 34 Y (0, 0) _ rfl HGW.out.2 Try.underlying34 rfl HSY.1 ?_; simp only [Act.put, List.setIfInBounds_toArray, List.set_cons_zero, List.set_cons_succ])
      | go_big_quiet_step (first | (go_at_call 12; exact calm_of (HSM2.out _ (HR2.out _))) | (go_at_call 11; exact calm_of (HO.out _ (HR2.out _)))))
    refine wpQuiet_nil ?_
    rintro w3 ⟨⟨_, hw3⟩, rfl⟩
    have hbz : Below w.heap.size w _ := (hbw.trans (hbWW.mono hbw.size)).trans (hw3.mono (hbw.trans (hbWW.mono hbw.size)).size)
    go_wp2
    go_ret
    exact ⟨rfl, hbz⟩
  · have hdd : (d1 == 0) = false := by simpa using hd1
    clear hc hcc hoY hsY hbW HX0 HGA HI HS0 HCl HRU2 HRUN HGET HALEN HFK
    go_wp2_with (first
      | (refine wpList_store_row rfl 34 (.tmp 8) _ rfl w4.heap.size Y rfl rfl 34 _ (heap_alloc_new w4 _) HY.out.1 (by rw [HY.out.2.1]; rfl) HY.out.2.2 ?_; rw [World.setRow_alloc_new, HA.out]))
    go_ret
    exact ⟨rfl, hbw⟩

end Go.Proofs.Ytbiipnojhjhejaa

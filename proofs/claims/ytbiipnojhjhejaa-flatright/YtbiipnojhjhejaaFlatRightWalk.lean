/- The walk of FlatRight: rights hold. -/
import Derived.Test.YtbiipnojhjhejaaJKeep
namespace Go.Proofs.Ytbiipnojhjhejaa
set_option maxRecDepth 100000
open Go.RowKit
set_option linter.unusedSimpArgs false
set_option linter.unusedVariables false

theorem hs_not {r : Int} (h : wrg r = 0) : hs r 2 = false ∨ hs r 4 = false := by
  unfold wrg at h
  split at h
  · cases h
  · split at h
    · cases h
    · rename_i h1
      cases h2 : hs r 2
      · exact Or.inl rfl
      · cases h4 : hs r 4
        · exact Or.inr rfl
        · exact absurd ⟨h2, h4⟩ h1

theorem hs_zero {r y : Int} (h : hs r y = false) : bits .and .i64 r y = 0 := by
  unfold hs at h
  simpa using h

theorem tk_cases {K : K8} {k : Int} (h : tk K k = true) : (k = 0 ∧ K.1 = true) ∨ (k = 1 ∧ K.2.2.1 = true) ∨ (k = 2 ∧ K.2.2.2.2.1 = true) ∨ (k = 3 ∧ K.2.2.2.2.2.2.1 = true) := by
  unfold tk at h
  split at h
  · rename_i e; exact Or.inl ⟨e, h⟩
  · split at h
    · rename_i e; exact Or.inr (Or.inl ⟨e, h⟩)
    · split at h
      · rename_i e; exact Or.inr (Or.inr (Or.inl ⟨e, h⟩))
      · split at h
        · rename_i e; exact Or.inr (Or.inr (Or.inr ⟨e, h⟩))
        · cases h

set_option maxRecDepth 100000 in
set_option maxHeartbeats 3200000 in
theorem flatRight_walk (v : Value) (l : List O12) (w : World) (h : IsRecs encO 1466015503658 w v l) (hwf : ∀ x ∈ l, wfO x) :
    Calls Try.prog 7 #[v] w fun e w' => e = .returned (.bool true) ∧ Below w.heap.size w w' := by
  obtain ⟨a, cap, rfl⟩ := h.form
  have HRUN : Hid (∀ w1, Below w.heap.size w w1 → Calls Try.prog 9 #[.slice a l.length cap] w1 fun e w' => ∃ a2 c2 X, e = .returned (.tuple #[.slice a2 l.length c2, .agg X]) ∧ IsRecs encA 2932031007400 w' (.slice a2 l.length c2) (run14 newW l).2 ∧ Below w1.heap.size w1 w' ∧ X.size = 44 ∧ X.all (·.oneCell') = true ∧
      ∀ w2, w2 = w'.alloc (.cells X 34) → IsW w1.heap.size w2 w'.heap.size (run14 newW l).1) := fun w1 hb => run14_keep _ l _ w1 (h.below hb) (by decide) (fun o ho => ⟨(hwf o ho).count, (hwf o ho).size⟩)
  have HI : Hid (Inv (run14 newW l).1) := inv_run inv_new
  generalize (run14 newW l).1 = S at *
  generalize (run14 newW l).2 = A at *
  generalize l.length = N at *
  clear h hwf
  have HS : Hid (∀ k, k ≤ 4 → 0 ≤ sumC S k ∧ sumC S k ≤ 64) := fun k hk => sumC_bd HI.out.2 hk
  go_enter Try.func7, Try.ntmps7
  go_wp2_with (first
    | (refine wpList_store_row rfl 34 (.tmp 4) _ rfl w2.heap.size X rfl rfl 34 _ (heap_alloc_new w2 _) (info_procs' HX.out.1) (by rw [HX.out.1]; rfl) HX.out.2 ?_; rw [World.setRow_alloc_new]; obtain ⟨wA, hA⟩ : ∃ wA, wA = w2.alloc (.cells X 34) := ⟨_, rfl⟩; rw [← hA]; have HWA : Hid (IsW w1.heap.size wA w2.heap.size S) := hW wA hA; have hgA : wA.heap[w2.heap.size]? = some (.cells X 34 (0, 0)) := (by rw [hA]; exact heap_alloc_new w2 _); have hbA : Below w.heap.size w wA := (by rw [hA]; exact (hb1.trans (hb2.mono hb1.size)).trans ((Below.refl _ _).alloc (Nat.le_trans hb1.size hb2.size) _)); clear hA hW)
    | (refine wpList_load_row rfl 34 (.tmp 4) rfl w2.heap.size rfl 34 X (0, 0) _ hgA Try.underlying34 rfl (info_procs' HX.out.1) ?_)
    | (go_at_call 8; refine (alive14_any _).mono ?_; rintro e w1 ⟨rfl, hb1⟩)
    | (go_at_call 9; refine (HRUN.out _ hb1).mono ?_; rintro e w2 ⟨a2, c2, X, rfl, -, hb2, hx1, hx2, hW⟩; have HX : Hid (X.size = 44 ∧ X.all (·.oneCell') = true) := ⟨hx1, hx2⟩; clear hx1 hx2))
  have HAR : Hid (∀ i, i < 4 → ∃ ra rn rc pa pn pc, Seems w1.heap.size wA (S i) (.slice ra rn rc) (.slice pa pn pc) ∧ ∀ w1 : World, (Instr.index 34 (.agg X) (.int .i64 (i : Int))).run Try.prog w1 = .ok (.agg (procC (S i) (.slice ra rn rc) (.slice pa pn pc)).toArray) w1) := fun i hi => HWA.out.arr hgA hi
  clear HRUN hb1 hb2 HX
  go_loopw [18, 5] (fun q s wr => ∃ i : Nat, i ≤ 4 ∧ q = .int .i64 i ∧ s = .int .i64 (sumC S i) ∧ Below wA.heap.size wA wr) (fun q _ _ => 4 - (intOf q).toNat)
  case atStart => exact ⟨0, Nat.zero_le _, rfl, rfl, Below.refl _ _⟩
  case round =>
    obtain ⟨i, hi4, rfl, rfl, hbel⟩ := hrel
    by_cases hlt : i < 4
    · have hd4 : decide ((i : Int) < 4) = true := by simp; omega
      obtain ⟨ra, rn, rc, pa, pn, pc, hs, hix⟩ := HAR.out i hlt
      have hpi := HI.out.1 i
      have HPI : Hid (PInv (S i)) := hpi
      have hpn : (pn : Int) = cnt (S i).L 0 64 := by rw [hs.pages.len]; exact pages_cnt hpi.good
      have hrn : rn = (S i).L.length := by
        obtain ⟨a', c', e⟩ := hs.regs.form
        injection e
      have hg64 := good_len hpi.good
      have hrr : ∀ w1, Below wA.heap.size wA w1 → IsRecs encR 64 w1 (.slice ra rn rc) (S i).L := fun w1 hb => (hs.regs.below hb).recs hg64
      have HR1 : Hid (∀ w1, Below wA.heap.size wA w1 → Calls Try.prog 19 #[.slice ra rn rc] w1 fun e w' => e = .returned (.bool true) ∧ Below w1.heap.size w1 w') := fun w1 hb => right_is _ _ 64 w1 (hrr w1 hb) (by decide) (right_of_good hpi.good)
      have HC1 : Hid (∀ w1, Below wA.heap.size wA w1 → Calls Try.prog 20 #[.slice ra rn rc] w1 fun e w' => e = .returned (.int .i64 (pn : Int)) ∧ Below w1.heap.size w1 w') := fun w1 hb => by
        rw [hpn]
        exact countAll_any _ _ 64 w1 (hrr w1 hb) (by decide)
      have HCELL : Hid (0 < rn → ∃ b off, ra = some ⟨b, off, none⟩ ∧ ∀ j u, (flatL encR (S i).L)[j]? = some u → wA.cell? ⟨b, off + j, none⟩ = some u) := by
        obtain ⟨a1, c1, e1, e2, e3, e4⟩ := hrr wA (Below.refl _ _)
        injection e1 with e1 e5 e6
        subst e1
        rw [hrn]
        exact e4
      have hr64 : rn ≤ 64 := by rw [hrn]; exact hg64
      have HSM : Hid (sumC S i + (pn : Int) = sumC S (i + 1)) := by show _ = _; rw [hpn]; rfl
      have HB1 := HS.out i hi4
      have HB2 := HS.out (i + 1) hlt
      rw [← HSM.out] at HB2
      have HLEN : Hid (rn = (S i).L.length) := hrn
      have HDEAD : Hid ((S i).live = false → rn = 0) := fun hd => by rw [hrn, hpi.dead hd]; rfl
      have HMEM : Hid (∀ x ∈ (S i).L, wrg x.2.2.1 = 0 ∧ tk (S i).K x.2.2.2.1 = true) := fun x hx => hpi.mem hx
      clear hs hpi hrr hg64 HPI hrn hpn
      generalize (S i).L = L at *
      obtain ⟨p, hp⟩ : ∃ p, p = S i := ⟨_, rfl⟩
      rw [← hp] at hix HDEAD HMEM
      clear hp
      obtain ⟨lv, L2, ⟨t0, d0, t1, d1, t2, d2, t3, d3⟩, B, T⟩ := p
      have hix2 : ∀ w1 : World, (Instr.index 34 (.agg X) (.int .i64 (i : Int))).run Try.prog w1 = .ok (.agg #[.bool lv, .slice ra rn rc, .bool t0, .int .i64 d0, .bool t1, .int .i64 d1, .bool t2, .int .i64 d2, .bool t3, .int .i64 d3, .slice pa pn pc]) w1 := hix
      clear hix
      simp only at HDEAD HMEM
      generalize sumC S i = SM at *
      cases lv
      · obtain rfl := HDEAD.out (by first | rfl | trivial)
        go_wp2_with fail
        refine wp_region_calm (by kernel_rfl) (by kernel_rfl) (fun W hW _ => ?_)
        have hc0 : ∀ u : Wd W, u.w.cell? ⟨wr.heap.size, 0, none⟩ = some (.bool false) := fun u => u.cell (by rw [hW]; simp)
        have hc1 : ∀ u : Wd W, u.w.cell? ⟨wr.heap.size, 1, none⟩ = some (.slice ra 0 rc) := fun u => u.cell (by rw [hW]; simp)
        have hc10 : ∀ u : Wd W, u.w.cell? ⟨wr.heap.size, 10, none⟩ = some (.slice pa pn pc) := fun u => u.cell (by rw [hW]; simp)
        have hbW : Below wr.heap.size wr W := by rw [hW]; exact (Below.refl _ _).alloc (Nat.le_refl _) _
        have hrow : OwnRow W wr.heap.size 33 [.bool false, .slice ra 0 rc, .bool t0, .int .i64 d0, .bool t1, .int .i64 d1, .bool t2, .int .i64 d2, .bool t3, .int .i64 d3, .slice pa pn pc] := by rw [hW]; exact heap_alloc_new wr _
        clear hW
        have hbw : Below wA.heap.size wA W := hbel.trans (hbW.mono hbel.size)
        have HR2 : Hid (∀ u : Wd W, Below wA.heap.size wA u.w) := fun u => hbw.trans (u.ok.mono hbw.size)
        repeat (go_big_quiet_step (first | (go_at_call 19; exact calm_of (HR1.out _ (HR2.out _))) | (go_at_call 20; exact calm_of (HC1.out _ (HR2.out _)))))
        refine wpQuiet_nil ?_
        rintro w3 ⟨⟨_, hw3⟩, rfl⟩
        have hbw3 : Below wA.heap.size wA w3 := hbw.trans (hw3.mono hbw.size)
        have hr3 := hrow.below hw3 hrow.lt
        have k1 : w3.cell? ⟨wr.heap.size, 1, none⟩ = some (.slice ra 0 rc) := hr3.cell 1
        have k2 : w3.cell? ⟨wr.heap.size, 2, none⟩ = some (.bool t0) := hr3.cell 2
        have k3 : w3.cell? ⟨wr.heap.size, 3, none⟩ = some (.int .i64 d0) := hr3.cell 3
        have k4 : w3.cell? ⟨wr.heap.size, 4, none⟩ = some (.bool t1) := hr3.cell 4
        have k5 : w3.cell? ⟨wr.heap.size, 5, none⟩ = some (.int .i64 d1) := hr3.cell 5
        have k6 : w3.cell? ⟨wr.heap.size, 6, none⟩ = some (.bool t2) := hr3.cell 6
        have k7 : w3.cell? ⟨wr.heap.size, 7, none⟩ = some (.int .i64 d2) := hr3.cell 7
        have k8 : w3.cell? ⟨wr.heap.size, 8, none⟩ = some (.bool t3) := hr3.cell 8
        have k9 : w3.cell? ⟨wr.heap.size, 9, none⟩ = some (.int .i64 d3) := hr3.cell 9
        have k10 : w3.cell? ⟨wr.heap.size, 10, none⟩ = some (.slice pa pn pc) := hr3.cell 10
        have hlt3 : wr.heap.size < w3.heap.size := hr3.lt
        clear hw3 hrow hr3 hbW hbw HR2 HR1 HC1 hc0 hc1 hc10 hix2 HAR hbel
        obtain ⟨bx, hbx⟩ : ∃ bx, wr.heap.size = bx := ⟨_, rfl⟩
        rw [hbx] at k1 k2 k3 k4 k5 k6 k7 k8 k9 k10 hlt3 ⊢
        clear hbx
        go_wp2_with fail
        go_loopw [53] (fun q wr => ∃ j : Nat, j ≤ 0 ∧ q = .int .i64 j ∧ Below w3.heap.size w3 wr) (fun q _ => 0 - (intOf q).toNat)
        case atStart => exact ⟨0, Nat.zero_le _, rfl, Below.refl _ _⟩
        case round =>
          obtain ⟨j, hj, rfl, hb3⟩ := hrel
          obtain rfl : j = 0 := by omega
          go_wp2
          go_roundw
          case rel => exact ⟨i + 1, by omega, by go_num, by rw [← HSM.out], hbw3.trans (hb3.mono hbw3.size)⟩
          case measure => simp [intOf]; omega
      · clear HDEAD
        go_wp2_with fail
        refine wp_region_calm (by kernel_rfl) (by kernel_rfl) (fun W hW _ => ?_)
        have hc0 : ∀ u : Wd W, u.w.cell? ⟨wr.heap.size, 0, none⟩ = some (.bool true) := fun u => u.cell (by rw [hW]; simp)
        have hc1 : ∀ u : Wd W, u.w.cell? ⟨wr.heap.size, 1, none⟩ = some (.slice ra rn rc) := fun u => u.cell (by rw [hW]; simp)
        have hc10 : ∀ u : Wd W, u.w.cell? ⟨wr.heap.size, 10, none⟩ = some (.slice pa pn pc) := fun u => u.cell (by rw [hW]; simp)
        have hbW : Below wr.heap.size wr W := by rw [hW]; exact (Below.refl _ _).alloc (Nat.le_refl _) _
        have hrow : OwnRow W wr.heap.size 33 [.bool true, .slice ra rn rc, .bool t0, .int .i64 d0, .bool t1, .int .i64 d1, .bool t2, .int .i64 d2, .bool t3, .int .i64 d3, .slice pa pn pc] := by rw [hW]; exact heap_alloc_new wr _
        clear hW
        have hbw : Below wA.heap.size wA W := hbel.trans (hbW.mono hbel.size)
        have HR2 : Hid (∀ u : Wd W, Below wA.heap.size wA u.w) := fun u => hbw.trans (u.ok.mono hbw.size)
        repeat (go_big_quiet_step (first | (go_at_call 19; exact calm_of (HR1.out _ (HR2.out _))) | (go_at_call 20; exact calm_of (HC1.out _ (HR2.out _)))))
        refine wpQuiet_nil ?_
        rintro w3 ⟨⟨_, hw3⟩, rfl⟩
        have hbw3 : Below wA.heap.size wA w3 := hbw.trans (hw3.mono hbw.size)
        have hr3 := hrow.below hw3 hrow.lt
        have k1 : w3.cell? ⟨wr.heap.size, 1, none⟩ = some (.slice ra rn rc) := hr3.cell 1
        have k2 : w3.cell? ⟨wr.heap.size, 2, none⟩ = some (.bool t0) := hr3.cell 2
        have k3 : w3.cell? ⟨wr.heap.size, 3, none⟩ = some (.int .i64 d0) := hr3.cell 3
        have k4 : w3.cell? ⟨wr.heap.size, 4, none⟩ = some (.bool t1) := hr3.cell 4
        have k5 : w3.cell? ⟨wr.heap.size, 5, none⟩ = some (.int .i64 d1) := hr3.cell 5
        have k6 : w3.cell? ⟨wr.heap.size, 6, none⟩ = some (.bool t2) := hr3.cell 6
        have k7 : w3.cell? ⟨wr.heap.size, 7, none⟩ = some (.int .i64 d2) := hr3.cell 7
        have k8 : w3.cell? ⟨wr.heap.size, 8, none⟩ = some (.bool t3) := hr3.cell 8
        have k9 : w3.cell? ⟨wr.heap.size, 9, none⟩ = some (.int .i64 d3) := hr3.cell 9
        have k10 : w3.cell? ⟨wr.heap.size, 10, none⟩ = some (.slice pa pn pc) := hr3.cell 10
        have hlt3 : wr.heap.size < w3.heap.size := hr3.lt
        clear hw3 hrow hr3 hbW hbw HR2 HR1 HC1 hc0 hc1 hc10 hix2 HAR hbel
        obtain ⟨bx, hbx⟩ : ∃ bx, wr.heap.size = bx := ⟨_, rfl⟩
        rw [hbx] at k1 k2 k3 k4 k5 k6 k7 k8 k9 k10 hlt3 ⊢
        clear hbx
        go_wp2_with fail
        go_loopw [53] (fun q wr => ∃ j : Nat, j ≤ rn ∧ q = .int .i64 j ∧ Below w3.heap.size w3 wr) (fun q _ => rn - (intOf q).toNat)
        case atStart => exact ⟨0, Nat.zero_le _, rfl, Below.refl _ _⟩
        case round =>
          obtain ⟨j, hj, rfl, hb3⟩ := hrel
          by_cases hjl : j < rn
          · obtain ⟨b, off, rfl, hc⟩ := HCELL.out (by omega)
            have hjL : j < L.length := by rw [← HLEN.out]; exact hjl
            obtain ⟨⟨xf, xt, xr, xk, xg, xs⟩, hp⟩ : ∃ q, q = L.getD j zR := ⟨_, rfl⟩
            have hmem := HMEM.out (L.getD j zR) (by rw [List.getD_eq_getElem?_getD, List.getElem?_eq_getElem hjL, Option.getD_some]; exact List.getElem_mem hjL)
            rw [← hp] at hmem
            obtain ⟨hm1, hm2⟩ := hmem
            have hbs : Below wA.heap.size wA wr := hbw3.trans (hb3.mono hbw3.size)
            obtain ⟨x0, x1, x2, x3, x4, x5⟩ := cell6 hc hbs j hjL hp
            have hns := hs_not hm1
            have hks := tk_cases hm2
            have m2 := (hb3.cell (cell_lt k2)).trans k2
            have m4 := (hb3.cell (cell_lt k4)).trans k4
            have m6 := (hb3.cell (cell_lt k6)).trans k6
            have m8 := (hb3.cell (cell_lt k8)).trans k8
            simp only at hks hns
            obtain ⟨kk, rfl, hk4, mk⟩ : ∃ kk : Nat, xk = (kk : Int) ∧ kk < 4 ∧ wr.cell? ⟨bx, 2 + kk * 2, none⟩ = some (.bool true) := by
              rcases hks with ⟨rfl, rfl⟩ | ⟨rfl, rfl⟩ | ⟨rfl, rfl⟩ | ⟨rfl, rfl⟩
              · exact ⟨0, rfl, by decide, m2⟩
              · exact ⟨1, rfl, by decide, m4⟩
              · exact ⟨2, rfl, by decide, m6⟩
              · exact ⟨3, rfl, by decide, m8⟩
            have hss : w3.heap.size ≤ wr.heap.size := hb3.size
            have hbxw : bx < wr.heap.size := by omega
            have HNX : Hid (∀ o, Below w3.heap.size w3 (wr.alloc o)) := fun o => hb3.trans ((Below.refl _ _).alloc (Nat.le_refl _) _ |>.mono hb3.size)
            clear hm1 hm2 hp hjL hbs hc k1 k2 k3 k4 k5 k6 k7 k8 k9 k10 m2 m4 m6 m8 hks HMEM
            have hk0 : decide ((kk : Int) < 0) = false := by simp
            have hk5 : decide ((kk : Int) ≥ 4) = false := by simp; omega
            have hand : bits .and .i64 xr 2 = 0 ∨ (¬ bits .and .i64 xr 2 = 0 ∧ bits .and .i64 xr 4 = 0) := by
              by_cases h2 : bits .and .i64 xr 2 = 0
              · exact Or.inl h2
              · rcases hns with h | h
                · exact absurd (hs_zero h) h2
                · exact Or.inr ⟨h2, hs_zero h⟩
            clear hns
            rcases hand with h2 | ⟨h2, h4⟩
            · go_wp2_with fail
              go_roundw
              case rel => exact ⟨j + 1, by omega, by go_num, HNX.out _⟩
              case measure => simp [intOf]; omega
            · have h2a : (bits .and .i64 xr 2 == 0) = false := by simpa using h2
              go_wp2_with fail
              go_roundw
              case rel => exact ⟨j + 1, by omega, by go_num, HNX.out _⟩
              case measure => simp [intOf]; omega
          · go_wp2
            go_roundw
            case rel => exact ⟨i + 1, by omega, by go_num, by rw [← HSM.out], hbw3.trans (hb3.mono hbw3.size)⟩
            case measure => simp [intOf]; omega
    · obtain rfl : i = 4 := by omega
      have hS4 := HI.out.2
      rw [← sumC_4] at hS4
      have hd : decide (sumC S 4 ≤ 64) = true := by simpa using hS4
      go_wp2_with fail
      go_ret
      exact ⟨rfl, hbA.trans (hbel.mono hbA.size)⟩

end Go.Proofs.Ytbiipnojhjhejaa

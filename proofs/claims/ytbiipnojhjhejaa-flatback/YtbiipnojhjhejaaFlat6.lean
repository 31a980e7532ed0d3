/- The contract of flat.world.fork: the least process that does not live becomes like another one. -/
import Derived.Test.YtbiipnojhjhejaaJFtwo
import Derived.Test.YtbiipnojhjhejaaJFmem
namespace Go.Proofs.Ytbiipnojhjhejaa
set_option maxRecDepth 100000
open Go.RowKit
set_option linter.unusedSimpArgs false
set_option linter.unusedVariables false

/-- All cells of a process are single ones. -/
theorem PC.one {xs : List Value} {off : Nat} {p : Pr} {v : Value} (h : PC xs off p v) (hv : v.oneCell' = true) {j : Nat} (hj : j < 10) {u : Value} (hu : xs[off + j]? = some u) : u.oneCell' = true := by
  by_cases h0 : j = 0
  · subst h0; rw [Nat.add_zero, h.live] at hu; cases hu; rfl
  by_cases h1 : j = 1
  · subst h1; rw [h.regs] at hu; cases hu; exact hv
  by_cases h2 : j < 10
  · have := h.keys (j - 2) (by omega)
    rw [show off + 2 + (j - 2) = off + j by omega, hu] at this
    have h3 : j - 2 < 8 := by omega
    generalize j - 2 = i at this h3
    match i, h3 with
    | 0, _ => cases this; rfl
    | 1, _ => cases this; rfl
    | 2, _ => cases this; rfl
    | 3, _ => cases this; rfl
    | 4, _ => cases this; rfl
    | 5, _ => cases this; rfl
    | 6, _ => cases this; rfl
    | 7, _ => cases this; rfl
  omega

/-- A process's cells, laid elsewhere. -/
theorem PC.move {xs ys : List Value} {a b : Nat} {p : Pr} {v : Value} (h : PC xs a p v) (he : ∀ j, j < 10 → ys[b + j]? = xs[a + j]?) : PC ys b p v := by
  refine ⟨?_, ?_, fun i hi => ?_⟩
  · have := he 0 (by decide); rw [Nat.add_zero, Nat.add_zero] at this; rw [this]; exact h.live
  · rw [he 1 (by decide)]; exact h.regs
  · rw [Nat.add_assoc, he (2 + i) (by omega), ← Nat.add_assoc]; exact h.keys i hi

/-- The whole of process k as it lies; written where process n lies, n is like k. -/
theorem WOK.whole {mv : Value} {base g : Nat} {w : World} {S : W4} (h : WOK mv base g w S) {k : Nat} (hk : k < 4) :
    ∃ X : List Value, X.length = 10 ∧ (∀ v ∈ X, v.oneCell' = true) ∧ w.rangeAt g (k * 10) X ∧ ∀ n, n < 4 → WOK mv base g (w.setCells g (n * 10) X) (upd S n (S k)) := by
  have hh := h
  obtain ⟨h1, h2, xs, h3, h4, h40, h5⟩ := h
  obtain ⟨v, hv, ho⟩ := h5 k hk
  have hX : ∀ j, j < 10 → ((xs.drop (k * 10)).take 10)[j]? = xs[k * 10 + j]? := fun j hj => by rw [List.getElem?_take_of_lt hj, List.getElem?_drop]
  have hl : ((xs.drop (k * 10)).take 10).length = 10 := by rw [List.length_take, List.length_drop]; omega
  refine ⟨(xs.drop (k * 10)).take 10, hl, fun u hu => ?_, fun j u hj => ?_, fun n hn => ?_⟩
  · obtain ⟨j, hj, he⟩ := List.getElem_of_mem hu
    have he' : xs[k * 10 + j]? = some u := by rw [← hX j (by omega), List.getElem?_eq_getElem hj, he]
    obtain ⟨a, cap, rfl⟩ := ho.form
    exact hv.one rfl (by omega) he'
  · have hlt := (List.getElem?_eq_some_iff.1 hj).1
    rw [h3.cell, ← hX j (by omega)]
    exact hj
  · have := hh.splice (k := n) (i := 0) (vs := (xs.drop (k * 10)).take 10) (p' := S k) hn (by omega) ?_
    · rw [Nat.add_zero] at this; exact this
    · intro ys u hly hp ho'
      -- the cells that are written are k's own: another row of the same length is not k's
      refine ⟨v, ⟨?_, ?_, fun i hi => ?_⟩, ho⟩
      · rw [spl_get hly, if_pos (by omega), show n * 10 - (n * 10 + 0) = 0 by omega, hX 0 (by decide)]; exact hv.live
      · rw [spl_get hly, if_pos (by omega), show n * 10 + 1 - (n * 10 + 0) = 1 by omega, hX 1 (by decide)]; exact hv.regs
      · rw [spl_get hly, if_pos (by omega), show n * 10 + 2 + i - (n * 10 + 0) = 2 + i by omega, hX (2 + i) (by omega), ← Nat.add_assoc]; exact hv.keys i hi

theorem info_process : (Try.prog.info? 88).map (·.size) = some 10 := by kernel_rfl

theorem ded_at {S : W4} {n : Nat} (hn : n < 4) (h : ∀ i, i < n → (S i).live = true) (hd : (S n).live = false) : ded S = n := by
  unfold ded
  match n, hn with
  | 0, _ => rw [hd]; rfl
  | 1, _ => rw [h 0 (by decide), hd]; rfl
  | 2, _ => rw [h 0 (by decide), h 1 (by decide), hd]; rfl
  | 3, _ => rw [h 0 (by decide), h 1 (by decide), h 2 (by decide), hd]; rfl

theorem ded_none {S : W4} (h : ∀ i, i < 4 → (S i).live = true) : ded S = 4 := by
  unfold ded
  rw [h 0 (by decide), h 1 (by decide), h 2 (by decide), h 3 (by decide)]
  rfl

theorem cnt_le {S : W4} (h : Inv S) {k : Nat} (hk : k < 4) : 0 ≤ cnt (S k).L 0 64 ∧ cnt (S k).L 0 64 ≤ 64 := by
  have h0 := cnt_pos (l := (S 0).L)
  have h1 := cnt_pos (l := (S 1).L)
  have h2 := cnt_pos (l := (S 2).L)
  have h3 := cnt_pos (l := (S 3).L)
  have := h.2
  unfold allC at this
  match k, hk with
  | 0, _ => omega
  | 1, _ => omega
  | 2, _ => omega
  | 3, _ => omega


/-- What memory is, behind a fork. -/
def forS {σ : Type} (M : Mem σ) (S : W4) (s : σ) (k : Nat) : σ := if forE S (S k) = 0 then M.sFork s k (ded S) else s

theorem inv_fork {S : W4} (h : Inv S) {k : Nat} (hk : k < 4) {n : Nat} (hn : n < 4) (hd : (S n).live = false) (hr : room S (cnt (S k).L 0 64) = true) : Inv (upd S n (S k)) := by
  have f1 : allC S + cnt (S k).L 0 64 ≤ 64 := by simpa [room] using hr
  refine inv_upd h hn (h.1 k) ?_
  have := cnt_pos (l := (S n).L)
  omega

set_option maxHeartbeats 3200000 in
theorem fork_any {σ : Type} (M : Mem σ) (base g : Nat) (S : W4) (s : σ) (k : Nat) (hk : k < 4) (hlk : (S k).live = true) (w : World) (h : WM M base g w S s) (hi : Inv S) :
    Calls Try.prog 53 #[.pointer (some ⟨g, 0, none⟩), .int .i64 k] w fun e w' => e = .returned (.tuple #[.int .i64 (fork14 S (S k)).2.1, .int .i64 (fork14 S (S k)).2.2]) ∧ WM M base g w' (fork14 S (S k)).1 (forS M S s k) ∧ MKg M g w w' := by
  have HM : Hid (∀ w1, Below w.heap.size w w1 → WM M base g w1 S s) := fun w1 hb => h.below hb
  have HW : Hid (∀ w1, Below w.heap.size w w1 → WOK M.mv base g w1 S) := fun w1 hb => h.wok.below hb
  have HI : Hid (Inv S ∧ (S k).live = true) := ⟨hi, hlk⟩
  obtain ⟨a, cap, h1, h2, -⟩ := h.wok.recs hi hk
  obtain ⟨c0, c1⟩ := cnt_le hi hk
  have HC : Hid (∀ v, v = .slice a (S k).L.length cap → Calls Try.prog 20 #[v] w fun e w' => e = .returned (.int .i64 (cnt (S k).L 0 64)) ∧ Below w.heap.size w w') := fun v hv => hv ▸ countAll_any _ _ 64 w h2 (by decide)
  have HR : Hid (∀ w1, Below w.heap.size w w1 → Calls Try.prog 57 #[.pointer (some ⟨g, 0, none⟩), .int .i64 (cnt (S k).L 0 64)] w1 fun e w' => e = .returned (.bool (room S (cnt (S k).L 0 64))) ∧ Below w1.heap.size w1 w') := fun w1 hb => hasRoom_any M.mv base g S _ w1 (HW.out _ hb) hi c0 c1
  have HE : Hid (forE S (S k) = if room S (cnt (S k).L 0 64) then if ded S = 4 then 4 else 0 else 4) := rfl
  have HF : Hid (fork14 S (S k) = if forE S (S k) = 0 then (upd S (ded S) (S k), (ded S : Int), 0) else (S, 0, 4)) := rfl
  have HS : Hid (forS M S s k = if forE S (S k) = 0 then M.sFork s k (ded S) else s) := rfl
  have HIF : Hid (∀ n, n < 4 → (S n).live = false → room S (cnt (S k).L 0 64) = true → Inv (upd S n (S k))) := fun n hn hd hr => inv_fork hi hk hn hd hr
  have hg := h.wok.glt
  generalize (S k).L.length = m at *
  generalize cnt (S k).L 0 64 = c at *
  generalize room S c = RM at *
  generalize forE S (S k) = E at *
  generalize fork14 S (S k) = X14 at *
  generalize forS M S s k = Z14 at *
  clear h h2 c0 c1 hi hlk
  cases RM
  · obtain rfl : E = 4 := HE.out
    obtain rfl : X14 = (S, 0, 4) := HF.out
    obtain rfl : Z14 = s := HS.out
    clear HE HF HS
    go_enter Try.func53, Try.ntmps53
    go_wp2_with (first
      | (go_at_call 20; refine (HC.out _ rfl).mono ?_; rintro e w1 ⟨rfl, hb1⟩)
      | (go_at_call 57; refine (HR.out _ hb1).mono ?_; rintro e w2 ⟨rfl, hb2⟩; have hbw := hb1.trans (hb2.mono hb1.size)))
    go_ret2
    exact ⟨rfl, HM.out _ hbw, MKg.of_below hbw⟩
  · go_enter Try.func53, Try.ntmps53
    go_wp2_with (first
      | (go_at_call 20; refine (HC.out _ rfl).mono ?_; rintro e w1 ⟨rfl, hb1⟩)
      | (go_at_call 57; refine (HR.out _ hb1).mono ?_; rintro e w2 ⟨rfl, hb2⟩; have hbw := hb1.trans (hb2.mono hb1.size)))
    go_loopw [21] (fun i wr => ∃ n : Nat, n ≤ 4 ∧ i = .int .i64 n ∧ Hid (∀ i, i < n → (S i).live = true) ∧ Below w.heap.size w wr) (fun i _ => 4 - (intOf i).toNat)
    case atStart => exact ⟨0, Nat.zero_le _, rfl, (fun i hi => absurd hi (Nat.not_lt_zero i)), hbw⟩
    case round =>
      obtain ⟨n, hn, rfl, hall, hbel⟩ := hrel
      have hwr := HW.out _ hbel
      by_cases hlt : n < 4
      · have hlv := hwr.live hlt
        obtain ⟨X, hX1, hX2, hX3, hX4⟩ := hwr.whole hk
        have HX : Hid (X.length = 10 ∧ (∀ v ∈ X, v.oneCell' = true) ∧ wr.rangeAt g (k * 10) X ∧ WOK M.mv base g (wr.setCells g (n * 10) X) (upd S n (S k)) ∧ wr.there g (n * 10) X.length) := ⟨hX1, hX2, hX3, hX4 n hlt, hwr.there (by omega)⟩
        have HSZ : Hid ((Try.prog.info? 88).map (·.size) = some X.length) := by show _ = _; rw [hX1]; exact info_process
        clear hX1 hX2 hX3 hX4 hwr
        obtain ⟨b, hb⟩ : ∃ b, b = (S n).live := ⟨_, rfl⟩
        rw [← hb] at hlv
        cases b with
        | true =>
          have HN : Hid (∀ i, i < n + 1 → (S i).live = true) := fun i hi => by
            by_cases he : i = n
            · rw [he, ← hb]
            · exact hall.out i (by omega)
          clear hb
          go_wp2
          go_roundw
          case rel => exact ⟨n + 1, by omega, by go_num, HN.out, hbel⟩
          case measure => simp [intOf]; omega
        | false =>
          have hded := ded_at hlt hall.out hb.symm
          have HXX : Hid (X14 = (upd S n (S k), (n : Int), 0) ∧ Z14 = M.sFork s k n) := by
            have h1 := HE.out
            rw [hded, if_pos (by first | rfl | trivial), if_neg (by omega)] at h1
            have h2 := HF.out
            rw [h1, if_pos rfl, hded] at h2
            have h3 := HS.out
            rw [h1, if_pos rfl, hded] at h3
            exact ⟨h2, h3⟩
          have HIV : Hid (Inv (upd S n (S k)) ∧ (S n).live = false) := ⟨HIF.out n hlt hb.symm (by first | rfl | trivial), hb.symm⟩
          clear hb hded HE HF HS hall HR HC HIF
          obtain ⟨wo, rfl⟩ : ∃ wo, wo = wr := ⟨_, rfl⟩
          go_wp2_with fail
          refine wp_region_noPanic ?_
          refine wp_region_held_drew (S := (fun _ => True)) (by kernel_rfl) (trivial) (fun hHeld => ?_)
          refine take_to 0 (some 32) (v := ?_) rfl rfl (by kernel_rfl) (by kernel_rfl) (by kernel_rfl) (fun _ _ _ h => h) (Or.inl ⟨by rfl, ?_⟩) (by assumption) ?_
          rotate_left
          · intro w hSw
            (try dsimp only at hSw)
            go_simp
            with_reducible rfl
          simp only [Act.put, List.setIfInBounds_toArray, List.set_cons_zero, List.set_cons_succ]
          refine take_to 1 (some 33) (v := ?_) rfl rfl (by kernel_rfl) (by kernel_rfl) (by kernel_rfl) (fun _ _ _ h => h) (Or.inl ⟨by rfl, ?_⟩) (by assumption) ?_
          rotate_left
          · intro w hSw
            (try dsimp only at hSw)
            go_simp
            with_reducible rfl
          simp only [Act.put, List.setIfInBounds_toArray, List.set_cons_zero, List.set_cons_succ]
          refine take_to 2 (some 34) (v := ?_) rfl rfl (by kernel_rfl) (by kernel_rfl) (by kernel_rfl) (fun _ _ _ h => h) (Or.inl ⟨by rfl, ?_⟩) (by assumption) ?_
          rotate_left
          · intro w hSw
            (try dsimp only at hSw)
            go_simp
            with_reducible rfl
          simp only [Act.put, List.setIfInBounds_toArray, List.set_cons_zero, List.set_cons_succ]
          refine take_to 3 (some 35) (v := ?_) rfl rfl (by kernel_rfl) (by kernel_rfl) (by kernel_rfl) (fun _ _ _ h => h) (Or.inl ⟨by rfl, ?_⟩) (by assumption) ?_
          rotate_left
          · intro w hSw
            (try dsimp only at hSw)
            go_simp
            with_reducible rfl
          simp only [Act.put, List.setIfInBounds_toArray, List.set_cons_zero, List.set_cons_succ]
          refine take_to 5 (some 37) (v := ?_) rfl rfl (by kernel_rfl) (by kernel_rfl) (by kernel_rfl) (fun _ _ _ h => h) (Or.inl ⟨by rfl, ?_⟩) (by assumption) ?_
          rotate_left
          · intro w hSw
            (try dsimp only at hSw)
            go_simp
            with_reducible rfl
          simp only [Act.put, List.setIfInBounds_toArray, List.set_cons_zero, List.set_cons_succ]
          refine take_to 6 (some 38) (v := ?_) rfl rfl (by kernel_rfl) (by kernel_rfl) (by kernel_rfl) (fun _ _ _ h => h) (Or.inl ⟨by rfl, ?_⟩) (by assumption) ?_
          rotate_left
          · intro w hSw
            (try dsimp only at hSw)
            go_simp
            with_reducible rfl
          simp only [Act.put, List.setIfInBounds_toArray, List.set_cons_zero, List.set_cons_succ]
          refine wpAnyH_ready (rs := [4]) (by kernel_rfl) (by simp) ?_
          refine AllReadyH.cons rfl (fun K hK => ?_) AllReadyH.nil
          rw [if_pos (by rfl)]
          refine wp_load_mid 88 _ rfl g (k * 10) rfl X _ (by rw [World.rangeAt_drew]; exact HX.out.2.2.1) Try.underlying88 rfl HSZ.out ?_
          refine hK.out _ _ trivial (fun hHeld => ?_)
          clear hK K
          simp only [Act.put, List.getElem_toArray, List.getElem_cons_succ, List.getElem_cons_zero, List.setIfInBounds_toArray, List.set_cons_zero, List.set_cons_succ, List.toList_toArray]
          refine take_to 7 (some 39) (v := ?_) rfl rfl (by kernel_rfl) (by kernel_rfl) (by kernel_rfl) (fun _ _ _ h => h) (Or.inl ⟨by rfl, ?_⟩) (by assumption) ?_
          rotate_left
          · intro w hSw
            (try dsimp only at hSw)
            go_simp
            with_reducible rfl
          simp only [Act.put, List.setIfInBounds_toArray, List.set_cons_zero, List.set_cons_succ]
          refine wpAnyH_ready (rs := [8]) (by kernel_rfl) (by simp) ?_
          refine AllReadyH.cons rfl (fun K hK => ?_) AllReadyH.nil
          rw [if_pos (by rfl)]
          refine wp_store_mid 88 _ _ rfl g (n * 10) X.toArray rfl rfl (by rw [World.there_drew, List.size_toArray]; exact HX.out.2.2.2.2) (by rw [List.size_toArray]; exact HSZ.out) (all_oneCell_toArray HX.out.2.1) ?_
          refine hK.out _ _ trivial (fun hHeld => ?_)
          clear hK K
          simp only [Act.put, List.getElem_toArray, List.getElem_cons_succ, List.getElem_cons_zero, List.setIfInBounds_toArray, List.set_cons_zero, List.set_cons_succ, List.toList_toArray]
          refine wpAnyH_done (by kernel_rfl) ?_ _
          refine NoPanic.normal ?_
          have HFIN : Hid (WOK M.mv base g (wo.drew.setCells g (n * 10) X) (upd S n (S k)) ∧ Spare g w (wo.drew.setCells g (n * 10) X)) := by
            obtain ⟨f1, f2, f3⟩ := HX.out.2.2.2.1
            refine ⟨?_, (Spare.of_below (hbel.drew)).setCells _ _⟩
            have hwo := (HW.out _ hbel).below (Below.refl _ _).drew
            obtain ⟨Y, y1, y2, y3, y4⟩ := hwo.whole hk
            have hYX : Y = X := by
              apply List.ext_getElem?
              intro j
              by_cases hj : j < 10
              · have e1 := y3 j Y[j] (List.getElem?_eq_getElem (by omega))
                have e2 := HX.out.2.2.1 j (X[j]'(by rw [HX.out.1]; exact hj)) (List.getElem?_eq_getElem (by rw [HX.out.1]; exact hj))
                rw [World.cell?_drew] at e1
                rw [e1] at e2
                rw [List.getElem?_eq_getElem (by omega), List.getElem?_eq_getElem (by rw [HX.out.1]; exact hj)]
                exact e2
              · rw [List.getElem?_eq_none (by omega), List.getElem?_eq_none (by rw [HX.out.1]; omega)]
            rw [← hYX]
            exact y4 n hlt
          have HMM : Hid (M.R (M.sFork s k n) (vw (upd S n (S k))) ∧ Calls Try.prog M.fFork #[.pointer (some M.pm), .int .i64 k, .int .i64 n] (wo.drew.setCells g (n * 10) X) fun e w' => (∃ v, e = .returned v) ∧ M.ok w' (M.sFork s k n) ∧ MK M.lo M.wr (wo.drew.setCells g (n * 10) X) w') := by
            have hM := HM.out _ (Below.refl _ _)
            obtain ⟨-, -, xs, hrow, -⟩ := hM.wok
            have hok : M.ok (wo.drew.setCells g (n * 10) X) s := M.spare hM.ok HFIN.out.2 hrow M.hdep.1
            have hv := vw_fork S hk hlt HI.out.2
            show _ ∧ _
            rw [hv]
            refine M.fork hok hM.rel (vw_good HI.out.1) hk hlt ?_ ?_ ?_
            · simp [vw, hk, HI.out.2]
            · simp [vw, HIV.out.2]
            · rw [← hv]; exact vw_good HIV.out.1
          have hcm : (wo.drew.setCells g (n * 10) X).cell? ⟨g, 40, none⟩ = some (.iface M.mty (.pointer (some M.pm))) := HFIN.out.1.mem
          obtain ⟨rfl, rfl⟩ := HXX.out
          have hm := fun w => (M.hm w).2.1
          have hcf := fun args w => (M.hf args w).2.1
          generalize wo.drew.setCells g (n * 10) X = w9 at HFIN HMM hcm ⊢
          go_wp2_with (refine HMM.out.2.mono ?_; rintro e w10 ⟨⟨v, rfl⟩, hok, hmk⟩)
          go_ret2
          exact ⟨rfl, ⟨HFIN.out.1.byMK hmk M.hwr.1 M.hwr.2.1, hok, HMM.out.1⟩, (MKg.of_spare HFIN.out.2).trans (MKg.of_mk hmk)⟩
      · obtain rfl : n = 4 := by omega
        have hded := ded_none hall.out
        have HXX : Hid (X14 = (S, 0, 4) ∧ Z14 = s) := by
          have h1 := HE.out
          rw [hded, if_pos (by first | rfl | trivial), if_pos rfl] at h1
          have h2 := HF.out
          rw [h1, if_neg (by decide)] at h2
          have h3 := HS.out
          rw [h1, if_neg (by decide)] at h3
          exact ⟨h2, h3⟩
        clear hded HE HF HS
        go_wp2
        go_ret2
        obtain ⟨rfl, rfl⟩ := HXX.out
        exact ⟨rfl, HM.out _ hbel, MKg.of_below hbel⟩

end Go.Proofs.Ytbiipnojhjhejaa

/- The contracts of clock.behind and clock.Next. -/
import Derived.Test.YtidaoomhnfgckagBools
import Derived.Test.YtidaoomhnfgckagClockMath
import Derived.Deep.LoopGhost
namespace Go.Proofs.Ytidaoomhnfgckag
open Go.RowKit
set_option linter.unusedSimpArgs false
set_option linter.unusedVariables false

/-- What Next returns: a place, the one behind it, a list, an error. -/
def nxtV (a b : Int) (v : Value) (e : Int) : Value := .tuple #[.int .i64 a, .int .i64 b, v, .int .i64 e]

/-- Four results. -/
theorem results_tmp4 {fn : Func} {t u v x : Tmp} (h : fn.results = #[.tmp t, .tmp u, .tmp v, .tmp x]) (tmps : Array Value) (P : Program) (w : World) :
    (results fn tmps).run P w = .ok (.tuple #[tmps.getD t undef, tmps.getD u undef, tmps.getD v undef, tmps.getD x undef]) w := by
  simp [results, h]

set_option maxHeartbeats 400000 in
theorem behind_any (n h k : Nat) (w : World) (hn : 0 < n) (hB : n ≤ 140737488355328) :
    Calls Try.prog 12 #[.int .i64 (ringP n h k : Nat), .int .i64 n] w fun e w' => e = .returned (.int .i64 (ringP n h (k + 1) : Nat)) ∧ w' = w := by
  have HE : Hid (ringP n h (k + 1) = if ringP n h k = n - 1 then 0 else ringP n h k + 1) := ringP_next hn
  have hlt := ringP_lt (n := n) (h := h) (k := k) hn
  rw [HE.out]
  generalize ringP n h k = x at hlt ⊢
  clear HE
  by_cases hx : x = n - 1
  · rw [if_pos hx]
    have hd : (x : Int) = (n : Int) - 1 := by omega
    clear hx
    go_enter Try.func12, Try.ntmps12
    go_wp2
    go_ret
    exact ⟨rfl, rfl⟩
  · rw [if_neg hx]
    have hd : ¬ (x : Int) = (n : Int) - 1 := by omega
    clear hx
    go_enter Try.func12, Try.ntmps12
    go_wp2
    go_ret
    exact ⟨rfl, rfl⟩

/-- The cell of a place of a row of the call's own. -/
theorem ownB_cell {w : World} {g : Nat} {e : TypeId} {xs : List Value} {l : List Bool} (h : OwnRow w g e xs) (ht : xs.take l.length = flatL encB l) {i : Nat} (hi : i < l.length) : w.cell? ⟨g, i, none⟩ = some (.bool (l.getD i false)) := by
  rw [h.cell, ← List.getElem?_take_of_lt hi, ht, flatB_map, List.getElem?_map, List.getD_eq_getElem?_getD, List.getElem?_eq_getElem hi]
  rfl

theorem ownB_set {xs : List Value} {l : List Bool} (ht : xs.take l.length = flatL encB l) (i : Nat) (b : Bool) : (xs.set i (.bool b)).take (l.set i b).length = flatL encB (l.set i b) := by
  rw [List.length_set, List.take_set, ht, flatB_set]

set_option maxHeartbeats 1600000 in
/-- Two slices as long as one another, a hand among them, one that may: the walk. -/
theorem next_ok (H : Nat) (v u : Value) (m us : List Bool) (B : Nat) (w : World) (h : IsRecs encB B w v m) (hu : IsRecs encB B w u us) (hB : B ≤ 140737488355328) (hl : m.length = us.length) (hH : H < m.length) (hm : true ∈ m) (K : Nat) (hK : Stops m us H K) :
    Calls Try.prog 6 #[.int .i64 H, v, u] w fun e w' => ∃ v', e = .returned (nxtV (ringP m.length H K : Nat) (ringP m.length H (K + 1) : Nat) v' 0) ∧ OwnR 4 1 encB w.heap.size w' v' (passL m us H K) ∧ Below w.heap.size w w' := by
  have HC : Hid (Calls Try.prog 10 #[v, .bool true] w fun e w' => e = .returned (.bool true) ∧ Below w.heap.size w w') := bcontains_is v m B w h hB (by simpa using hm)
  have HL : Hid (∀ w1, Below w.heap.size w w1 → Calls Try.prog 11 #[u] w1 fun e w' => ∃ g cap xs, e = .returned (.slice (some ⟨g, 0, none⟩) m.length cap) ∧ w1.heap.size ≤ g ∧ OwnRow w' g 4 xs ∧ m.length ≤ cap ∧ cap ≤ maxLen ∧ xs.length = cap ∧ xs.take us.length = flatL encB us ∧ Below w1.heap.size w1 w') := by
    intro w1 hb
    refine (bclone_any u us B w1 (hu.below hb) hB).mono ?_
    rintro e w' ⟨v', rfl, ho, hb'⟩
    obtain ⟨g, cap, xs, rfl, h1, h2, h3, h4, h5, h6⟩ := ho.row (by omega)
    exact ⟨g, cap, xs, by rw [hl], h1, h2, by omega, h4, by omega, by rw [← h6, Nat.mul_one], hb'⟩
  have hlu := hu.len
  obtain ⟨ua, ucap, rfl⟩ := hu.form
  obtain ⟨a, cap, rfl, h1, hlm, hc'⟩ := h
  obtain ⟨b, off, rfl, hc⟩ := hc' (by omega)
  clear hc' hu
  have HB : Hid (∀ k (w1 : World), Calls Try.prog 12 #[.int .i64 (ringP m.length H k : Nat), .int .i64 m.length] w1 fun e w' => e = .returned (.int .i64 (ringP m.length H (k + 1) : Nat)) ∧ w' = w1) := fun k w1 => behind_any m.length H k w1 (by omega) (by omega)
  have HCELL : Hid (∀ k (wr : World), Below w.heap.size w wr → wr.cell? ⟨b, off + ringP m.length H k, none⟩ = some (.bool (m.getD (ringP m.length H k) false))) := fun k wr hb => cellB hc hb _ (ringP_lt (by omega)) rfl
  have HOWN : Hid (∀ k (wr : World) g xs, OwnRow wr g 4 xs → xs.take us.length = flatL encB (passL m us H k) → wr.cell? ⟨g, ringP m.length H k, none⟩ = some (.bool ((passL m us H k).getD (ringP m.length H k) false))) := fun k wr g xs ho ht => ownB_cell ho (by rw [passL_len]; exact ht) (by rw [passL_len, ← hl]; exact ringP_lt (by omega))
  have HSET : Hid (∀ k (xs : List Value), xs.take us.length = flatL encB (passL m us H k) → m.getD (ringP m.length H k) false = true → (xs.set (ringP m.length H k) (.bool false)).take us.length = flatL encB (passL m us H (k + 1))) := by
    intro k xs ht hy
    have := ownB_set (xs := xs) (l := passL m us H k) (by rw [passL_len]; exact ht) (ringP m.length H k) false
    rw [List.length_set, passL_len] at this
    rw [this, passL, if_pos hy]
  have HNO : Hid (∀ k, m.getD (ringP m.length H k) false = false → passL m us H (k + 1) = passL m us H k) := fun k hy => by rw [passL, hy]; rfl
  have HST : Hid (∀ k, stopB m us H k = (m.getD (ringP m.length H k) false && !(passL m us H k).getD (ringP m.length H k) false)) := fun k => rfl
  have HLT : Hid (∀ k, ringP m.length H k < m.length) := fun k => ringP_lt (by omega)
  have HZ : Hid (H = ringP m.length H 0) := (ringP_zero hH).symm
  have HPL : Hid (∀ k, (passL m us H k).length = us.length) := fun k => passL_len m us H k
  have HKK : Hid (Stops m us H K) := hK
  obtain ⟨n, hn⟩ : ∃ n, Hid (n = m.length) := ⟨_, rfl⟩
  have hn2 : Hid (n = us.length) := hn.out.trans hl
  have hnB : n ≤ 140737488355328 := by rw [hn.out]; omega
  have hHn : H < n := by rw [hn.out]; exact hH
  simp only [← hn.out, ← hn2.out] at HC HL HB HCELL HOWN HSET HNO HST HLT HZ HPL ⊢
  clear hc hK hm hlu hlm hl h1 hH hB
  go_enter Try.func6, Try.ntmps6
  go_wp2_with (first
    | (go_at_call 10; refine HC.out.mono ?_; rintro e w1 ⟨rfl, hw1⟩)
    | (go_at_call 11; refine (HL.out _ hw1).mono ?_; rintro e w2 ⟨g, gcap, xs0, rfl, hg, ho2, hgc, hgm, hxl, hxt, hw2⟩))
  go_loopg [11] K (fun c i wr => ∃ k xs, c + k = K ∧ i = .int .i64 (ringP n H k : Nat) ∧ Hid (OwnRow wr g 4 xs ∧ xs.length = gcap ∧ xs.take n = flatL encB (passL m us H k)) ∧ Below w.heap.size w wr)
  case atStart => exact ⟨0, xs0, rfl, by rw [← HZ.out], ⟨ho2, hxl, hxt⟩, hw1.trans (hw2.mono hw1.size)⟩
  case round =>
    obtain ⟨k, xs, hck, rfl, HO, hbel⟩ := hrel
    obtain ⟨ho, hxl, hxt⟩ := HO.out
    have hlt := HLT.out k
    have c0 := HCELL.out k wr hbel
    have c1 := HOWN.out k wr g xs ho hxt
    have cf := ho.free (ringP n H k)
    have HBk : Hid (∀ w1 : World, Calls Try.prog 12 #[.int .i64 (ringP n H k : Nat), .int .i64 n] w1 fun e w' => e = .returned (.int .i64 (ringP n H (k + 1) : Nat)) ∧ w' = w1) := HB.out k
    have HSk := HST.out k
    have HSET1 : Hid _ := HSET.out k xs hxt
    have HNO1 : Hid _ := HNO.out k
    have HO1 : Hid (OwnRow wr g 4 xs) := ho
    have HX1 : Hid _ := hxl
    have HX2 : Hid _ := hxt
    have hgw : w.heap.size ≤ g := Nat.le_trans hw1.size hg
    cases hM : m.getD (ringP n H k) false with
    | false =>
      rw [hM] at c0 HSk
      have hkK : k ≠ K := by
        intro e
        have := HKK.out.1
        rw [← e, HSk] at this
        cases this
      have HPK : Hid (passL m us H (k + 1) = passL m us H k) := HNO1.out hM
      clear HSk hM HO ho hxl hxt HST HNO HSET HOWN HCELL HLT HPL HB HC HL c1 cf
      obtain ⟨x, hx⟩ : ∃ x, x = ringP n H k := ⟨_, rfl⟩
      obtain ⟨y, hy⟩ : ∃ y, y = ringP n H (k + 1) := ⟨_, rfl⟩
      rw [← hx] at c0 hlt HBk ⊢
      rw [← hy] at HBk
      have HY : Hid (y = ringP n H (k + 1)) := hy
      clear hx hy
      go_wp2_with (go_at_call 12; refine (HBk.out _).mono ?_; rintro e w3 ⟨rfl, rfl⟩)
      go_roundg (gk - 1)
      case measure => omega
      case rel => exact ⟨k + 1, xs, by omega, by rw [HY.out], ⟨HO1.out, HX1.out, by rw [HPK.out]; exact HX2.out⟩, hbel⟩
    | true =>
      rw [hM] at c0 HSk
      have HXS : Hid ((xs.set (ringP n H k) (.bool false)).take n = flatL encB (passL m us H (k + 1))) := HSET1.out hM
      cases hL : (passL m us H k).getD (ringP n H k) false with
      | true =>
        rw [hL] at c1 HSk
        have hkK : k ≠ K := by
          intro e
          have := HKK.out.1
          rw [← e, HSk] at this
          cases this
        clear HSk hM hL HO ho hxl hxt HST HNO HSET HOWN HCELL HLT HPL HB HC HL
        obtain ⟨x, hx⟩ : ∃ x, x = ringP n H k := ⟨_, rfl⟩
        obtain ⟨y, hy⟩ : ∃ y, y = ringP n H (k + 1) := ⟨_, rfl⟩
        rw [← hx] at c0 c1 cf hlt HBk HXS ⊢
        rw [← hy] at HBk
        have HY : Hid (y = ringP n H (k + 1)) := hy
        clear hx hy
        go_wp2_with (go_at_call 12; refine (HBk.out _).mono ?_; rintro e w3 ⟨rfl, rfl⟩)
        go_roundg (gk - 1)
        case measure => omega
        case rel => exact ⟨k + 1, xs.set x (.bool false), by omega, by rw [HY.out], ⟨HO1.out.set x _, by rw [List.length_set]; exact HX1.out, HXS.out⟩, hbel.setCell hgw _⟩
      | false =>
        rw [hL] at c1 HSk
        have hkK : k = K := by
          rcases Nat.lt_or_ge k K with h | h
          · have := HKK.out.2 k h
            rw [HSk] at this
            cases this
          · omega
        have HF : Hid (OwnR 4 1 encB w.heap.size wr (.slice (some ⟨g, 0, none⟩) n gcap) (passL m us H K)) := by
          have := ownR_of_row (l := passL m us H k) (cap := gcap) shB hgw ho (by rw [HPL.out]; exact hgc) hgm (by rw [Nat.mul_one]; exact hxl) (by rw [HPL.out, Nat.mul_one]; exact hxt)
          rw [HPL.out, hkK] at this
          exact this
        clear HSk hM hL HO ho hxl hxt HST HNO HSET HOWN HCELL HLT HPL HB HC HL
        subst hkK
        obtain ⟨x, hx⟩ : ∃ x, x = ringP n H k := ⟨_, rfl⟩
        obtain ⟨y, hy⟩ : ∃ y, y = ringP n H (k + 1) := ⟨_, rfl⟩
        rw [← hx] at c0 c1 cf hlt HBk HXS ⊢
        rw [← hy] at HBk
        have HX : Hid (x = ringP n H k) := hx
        have HY : Hid (y = ringP n H (k + 1)) := hy
        clear hx hy
        go_wp2_with (go_at_call 12; refine (HBk.out _).mono ?_; rintro e w3 ⟨rfl, rfl⟩)
        (try simp only [Exit.inBlock, Exit.then]); refine bodyPost_ret (results_tmp4 rfl _ _ _) rfl ?_
        exact ⟨_, by rw [← HX.out, ← HY.out]; rfl, HF.out, hbel⟩

set_option maxHeartbeats 400000 in
/-- What Next answers. -/
theorem next_any (hand : Int) (v u : Value) (m us : List Bool) (B : Nat) (w : World) (h : IsRecs encB B w v m) (hu : IsRecs encB B w u us) (hB : B ≤ 140737488355328) :
    Calls Try.prog 6 #[.int .i64 hand, v, u] w fun e w' => ∃ a b v' L err, e = .returned (nxtV a b v' err) ∧ OwnR 4 1 encB w.heap.size w' v' L ∧ Says hand m us a b L err ∧ Below w.heap.size w w' := by
  by_cases hl : m.length = us.length
  · by_cases hr : 0 ≤ hand ∧ hand < m.length
    · by_cases hm : true ∈ m
      · obtain ⟨H, rfl⟩ := Int.eq_ofNat_of_zero_le hr.1
        have hH : H < m.length := by omega
        obtain ⟨K, hK⟩ := stops_some (u := us) hH hm
        refine (next_ok H v u m us B w h hu hB hl hH hm K hK).mono ?_
        rintro e w' ⟨v', he, ho, hb⟩
        exact ⟨_, _, v', _, 0, he, ho, Or.inr (Or.inr (Or.inr ⟨hl, hr, hm, rfl, K, hK, rfl, rfl, rfl⟩)), hb⟩
      · have HC : Hid (Calls Try.prog 10 #[v, .bool true] w fun e w' => e = .returned (.bool false) ∧ Below w.heap.size w w') := bcontains_is v m B w h hB (by simpa using hm)
        have HS : Hid (Says hand m us 0 0 [] 3) := Or.inr (Or.inr (Or.inl ⟨hl, hr, hm, rfl, rfl, rfl, rfl⟩))
        have d1 := hr.1
        have d2 := hr.2
        have hlm := h.len
        obtain ⟨a, cap, rfl⟩ := h.form
        obtain ⟨ua, ucap, rfl⟩ := hu.form
        rw [← hl]
        generalize m.length = n at *
        clear h hu hl hr hm
        go_enter Try.func6, Try.ntmps6
        go_wp2_with (go_at_call 10; refine HC.out.mono ?_; rintro e w1 ⟨rfl, hw1⟩)
        (try simp only [Exit.inBlock, Exit.then]); refine bodyPost_ret (results_tmp4 rfl _ _ _) rfl ?_
        exact ⟨_, _, _, _, _, rfl, ownR_nil _ _ _, HS.out, hw1⟩
    · have HS : Hid (Says hand m us 0 0 [] 2) := Or.inr (Or.inl ⟨hl, hr, rfl, rfl, rfl, rfl⟩)
      have hlm := h.len
      obtain ⟨a, cap, rfl⟩ := h.form
      obtain ⟨ua, ucap, rfl⟩ := hu.form
      rw [← hl]
      generalize m.length = n at *
      clear h hu hl
      by_cases d1 : hand < 0
      · clear hr
        go_enter Try.func6, Try.ntmps6
        go_wp2
        (try simp only [Exit.inBlock, Exit.then]); refine bodyPost_ret (results_tmp4 rfl _ _ _) rfl ?_
        exact ⟨_, _, _, _, _, rfl, ownR_nil _ _ _, HS.out, Below.refl _ _⟩
      · have d2 : (n : Int) ≤ hand := by omega
        clear hr
        go_enter Try.func6, Try.ntmps6
        go_wp2
        (try simp only [Exit.inBlock, Exit.then]); refine bodyPost_ret (results_tmp4 rfl _ _ _) rfl ?_
        exact ⟨_, _, _, _, _, rfl, ownR_nil _ _ _, HS.out, Below.refl _ _⟩
  · have HS : Hid (Says hand m us 0 0 [] 1) := Or.inl ⟨hl, rfl, rfl, rfl, rfl⟩
    have hd : ¬ (m.length : Int) = (us.length : Int) := by omega
    obtain ⟨a, cap, rfl⟩ := h.form
    obtain ⟨ua, ucap, rfl⟩ := hu.form
    generalize m.length = n at *
    generalize us.length = n' at *
    clear h hu hl
    go_enter Try.func6, Try.ntmps6
    go_wp2
    (try simp only [Exit.inBlock, Exit.then]); refine bodyPost_ret (results_tmp4 rfl _ _ _) rfl ?_
    exact ⟨_, _, _, _, _, rfl, ownR_nil _ _ _, HS.out, Below.refl _ _⟩

end Go.Proofs.Ytidaoomhnfgckag

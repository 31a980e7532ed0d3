/- The contract of flat.world.turn: what changes a process, or which live. -/
import Derived.Test.YtbiipnojhjhejaaFlat11
import Derived.Test.YtbiipnojhjhejaaFlatUn
import Derived.Test.YtbiipnojhjhejaaFlat7
namespace Go.Proofs.Ytbiipnojhjhejaa
set_option maxRecDepth 100000
open Go.RowKit
set_option linter.unusedSimpArgs false
set_option linter.unusedVariables false

/-- The cells of no process. -/
def zPl : List Value := [.bool false, .slice none 0 0, .bool false, .int .i64 0, .bool false, .int .i64 0, .bool false, .int .i64 0, .bool false, .int .i64 0]

/-- A process leaves: nothing is there. -/
theorem WOK.gone {mv : Value} {base g : Nat} {w : World} {S : W4} (h : WOK mv base g w S) {k : Nat} (hk : k < 4) : WOK mv base g (w.setCells g (k * 10) zPl) (upd S k noP) := by
  have := h.splice (k := k) (i := 0) (vs := zPl) (p' := noP) hk (by decide) (fun xs u hly hp ho => ?_)
  · rw [Nat.add_zero] at this; exact this
  · have hg : ∀ i, i < 10 → (spl xs (k * 10 + 0) zPl)[k * 10 + i]? = zPl[i]? := fun i hi => by
      rw [spl_get hly, if_pos ⟨by omega, by show k * 10 + i < k * 10 + 0 + 10; omega⟩, show k * 10 + i - (k * 10 + 0) = i by omega]
    refine ⟨.slice none 0 0, ⟨?_, hg 1 (by decide), fun i hi => ?_⟩, ownR_nil _ _ _⟩
    · exact hg 0 (by decide)
    · rw [Nat.add_assoc, hg (2 + i) (by omega)]
      match i, hi with
      | 0, _ => rfl
      | 1, _ => rfl
      | 2, _ => rfl
      | 3, _ => rfl
      | 4, _ => rfl
      | 5, _ => rfl
      | 6, _ => rfl
      | 7, _ => rfl

theorem own_if (S : W4) (k : Nat) (q : Pr) (v e : Int) : (if e = 0 then (q, v, (0 : Int)) else (S k, 0, e)).2.1 = (if e = 0 then v else 0) ∧ (if e = 0 then (q, v, (0 : Int)) else (S k, 0, e)).2.2 = e ∧ upd S k (if e = 0 then (q, v, (0 : Int)) else (S k, 0, e)).1 = if e = 0 then upd S k q else S := by
  by_cases h : e = 0
  · subst h; simp
  · simp only [if_neg h]; exact ⟨trivial, trivial, upd_self S k⟩

/-- What turn answers and leaves. -/
def tuV (S : W4) (k : Nat) (o : O12) : Int := if o.kind = 8 then (fork14 S (S k)).2.1 else (own14 S (S k) o).2.1
def tuE (S : W4) (k : Nat) (o : O12) : Int := if o.kind = 8 then (fork14 S (S k)).2.2 else (own14 S (S k) o).2.2
def tuS (S : W4) (k : Nat) (o : O12) : W4 := if o.kind = 8 then (fork14 S (S k)).1 else upd S k (own14 S (S k) o).1

theorem tu_1 (S : W4) (k : Nat) (o : O12) (h : o.kind = 1) : tuV S k o = (if mapE S (S k) o = 0 then mapF (S k) o else 0) ∧ tuE S k o = mapE S (S k) o ∧ tuS S k o = if mapE S (S k) o = 0 then upd S k (mapP (S k) o) else S := by
  unfold tuV tuE tuS own14
  rw [if_neg (show ¬ o.kind = 8 by omega), if_neg (show ¬ o.kind = 8 by omega), if_neg (show ¬ o.kind = 8 by omega)]
  simp only [h, show ¬ ((1 : Int) = 2) by decide]
  simp only [show ∀ a b : Int, (a = b) = (a = b) from fun _ _ => rfl, if_true, if_false, if_true]
  exact own_if S k _ _ _

theorem tu_2 (S : W4) (k : Nat) (o : O12) (h : o.kind = 2) : tuV S k o = (if unmE (S k) o = 0 then 0 else 0) ∧ tuE S k o = unmE (S k) o ∧ tuS S k o = if unmE (S k) o = 0 then upd S k (unmP (S k) o) else S := by
  unfold tuV tuE tuS own14
  rw [if_neg (show ¬ o.kind = 8 by omega), if_neg (show ¬ o.kind = 8 by omega), if_neg (show ¬ o.kind = 8 by omega)]
  simp only [h, show ¬ ((1 : Int) = 2) by decide]
  simp only [show ∀ a b : Int, (a = b) = (a = b) from fun _ _ => rfl, if_true, if_false, show ¬ ((2 : Int) = 1) by decide]
  exact own_if S k _ _ _

theorem tu_3 (S : W4) (k : Nat) (o : O12) (h : o.kind = 3) : tuV S k o = (if proE (S k) o = 0 then 0 else 0) ∧ tuE S k o = proE (S k) o ∧ tuS S k o = if proE (S k) o = 0 then upd S k (proP (S k) o) else S := by
  unfold tuV tuE tuS own14
  rw [if_neg (show ¬ o.kind = 8 by omega), if_neg (show ¬ o.kind = 8 by omega), if_neg (show ¬ o.kind = 8 by omega)]
  simp only [h, show ¬ ((1 : Int) = 2) by decide]
  simp only [show ∀ a b : Int, (a = b) = (a = b) from fun _ _ => rfl, if_true, if_false, show ¬ ((3 : Int) = 1) by decide, show ¬ ((3 : Int) = 2) by decide]
  exact own_if S k _ _ _

theorem tu_4 (S : W4) (k : Nat) (o : O12) (h : o.kind = 4) : tuV S k o = (if seaE (S k) o = 0 then 0 else 0) ∧ tuE S k o = seaE (S k) o ∧ tuS S k o = if seaE (S k) o = 0 then upd S k (seaP (S k) o) else S := by
  unfold tuV tuE tuS own14
  rw [if_neg (show ¬ o.kind = 8 by omega), if_neg (show ¬ o.kind = 8 by omega), if_neg (show ¬ o.kind = 8 by omega)]
  simp only [h, show ¬ ((1 : Int) = 2) by decide]
  simp only [show ∀ a b : Int, (a = b) = (a = b) from fun _ _ => rfl, if_true, if_false, show ¬ ((4 : Int) = 1) by decide, show ¬ ((4 : Int) = 2) by decide, show ¬ ((4 : Int) = 3) by decide]
  exact own_if S k _ _ _

theorem tu_5 (S : W4) (k : Nat) (o : O12) (h : o.kind = 5) : tuV S k o = (if nwE (S k).K = 0 then nwN (S k).K else 0) ∧ tuE S k o = nwE (S k).K ∧ tuS S k o = if nwE (S k).K = 0 then upd S k ({ S k with K := nwL (S k).K }) else S := by
  unfold tuV tuE tuS own14
  rw [if_neg (show ¬ o.kind = 8 by omega), if_neg (show ¬ o.kind = 8 by omega), if_neg (show ¬ o.kind = 8 by omega)]
  simp only [h, show ¬ ((1 : Int) = 2) by decide]
  simp only [show ∀ a b : Int, (a = b) = (a = b) from fun _ _ => rfl, if_true, if_false, show ¬ ((5 : Int) = 1) by decide, show ¬ ((5 : Int) = 2) by decide, show ¬ ((5 : Int) = 3) by decide, show ¬ ((5 : Int) = 4) by decide]
  exact own_if S k _ _ _

theorem tu_6 (S : W4) (k : Nat) (o : O12) (h : o.kind = 6) : tuV S k o = (if kfE (S k) o = 0 then 0 else 0) ∧ tuE S k o = kfE (S k) o ∧ tuS S k o = if kfE (S k) o = 0 then upd S k ({ S k with K := frL (S k).K o.key }) else S := by
  unfold tuV tuE tuS own14
  rw [if_neg (show ¬ o.kind = 8 by omega), if_neg (show ¬ o.kind = 8 by omega), if_neg (show ¬ o.kind = 8 by omega)]
  simp only [h, show ¬ ((1 : Int) = 2) by decide]
  simp only [show ∀ a b : Int, (a = b) = (a = b) from fun _ _ => rfl, if_true, if_false, show ¬ ((6 : Int) = 1) by decide, show ¬ ((6 : Int) = 2) by decide, show ¬ ((6 : Int) = 3) by decide, show ¬ ((6 : Int) = 4) by decide, show ¬ ((6 : Int) = 5) by decide]
  exact own_if S k _ _ _

theorem tu_7 (S : W4) (k : Nat) (o : O12) (h : o.kind = 7) : tuV S k o = (if stE (S k).K o.key o.rights = 0 then 0 else 0) ∧ tuE S k o = stE (S k).K o.key o.rights ∧ tuS S k o = if stE (S k).K o.key o.rights = 0 then upd S k ({ S k with K := stL (S k).K o.key o.rights }) else S := by
  unfold tuV tuE tuS own14
  rw [if_neg (show ¬ o.kind = 8 by omega), if_neg (show ¬ o.kind = 8 by omega), if_neg (show ¬ o.kind = 8 by omega)]
  simp only [h, show ¬ ((1 : Int) = 2) by decide]
  simp only [show ∀ a b : Int, (a = b) = (a = b) from fun _ _ => rfl, if_true, if_false, show ¬ ((7 : Int) = 1) by decide, show ¬ ((7 : Int) = 2) by decide, show ¬ ((7 : Int) = 3) by decide, show ¬ ((7 : Int) = 4) by decide, show ¬ ((7 : Int) = 5) by decide, show ¬ ((7 : Int) = 6) by decide]
  exact own_if S k _ _ _

theorem tu_8 (S : W4) (k : Nat) (o : O12) (h : o.kind = 8) : tuV S k o = (fork14 S (S k)).2.1 ∧ tuE S k o = (fork14 S (S k)).2.2 ∧ tuS S k o = (fork14 S (S k)).1 := by
  unfold tuV tuE tuS
  rw [if_pos h, if_pos h, if_pos h]
  exact ⟨rfl, rfl, rfl⟩

theorem tu_9 (S : W4) (k : Nat) (o : O12) (h : o.kind = 9) : tuV S k o = 0 ∧ tuE S k o = 0 ∧ tuS S k o = upd S k noP := by
  unfold tuV tuE tuS own14
  rw [if_neg (show ¬ o.kind = 8 by omega), if_neg (show ¬ o.kind = 8 by omega), if_neg (show ¬ o.kind = 8 by omega)]
  simp [h]

/-- What memory is, behind a turn. -/
def turS {σ : Type} (M : Mem σ) (S : W4) (s : σ) (k : Nat) (o : O12) : σ :=
  if o.kind = 2 then unmS M S s k o else if o.kind = 8 then forS M S s k else if o.kind = 9 then M.sExit s k else s

/-- What is done to processes alone. -/
theorem WM.alone {σ : Type} {M : Mem σ} {base g : Nat} {w w' : World} {S S' : W4} {s : σ} (h : WM M base g w S s) (hw : WOK M.mv base g w' S') (hs : Spare g w w') (hr : M.R s (vw S')) : WM M base g w' S' s ∧ MKg M g w w' := by
  obtain ⟨-, -, xs, hrow, -⟩ := h.wok
  exact ⟨⟨hw, M.spare h.ok hs hrow M.hdep.1, hr⟩, MKg.of_spare hs⟩

theorem vw_keep (S : W4) (k : Nat) (q : Pr) (e : Int) (hl : q.live = (S k).live) (hq : e = 0 → ∀ p, (atR q.L p).isSome = (atR (S k).L p).isSome) (hB : q.B = (S k).B) (hT : q.T = (S k).T) : vw (if e = 0 then upd S k q else S) = vw S := by
  split
  · rename_i h; exact vw_same S hl (hq h) (fun a => by rw [hB]) (fun a => by rw [hT])
  · rfl

theorem ch_same {φ : A4 → A4} {l : List R6} {f t : Int} (h : chE l f t = 0) (q : Int) : (atR (chL φ l f t) q).isSome = (atR l q).isSome := by
  rw [(ch_pages h).2.2.2.2]
  split
  · cases atR l q <;> rfl
  · rfl

set_option maxHeartbeats 3200000 in
theorem turn14_any {σ : Type} (M : Mem σ) (base g : Nat) (S : W4) (s : σ) (k : Nat) (hk : k < 4) (hlk : (S k).live = true) (o : O12) (hp : o.proc = k) (hw1 : bdI o.count) (hkd : 1 ≤ o.kind ∧ o.kind ≤ 9) (w : World) (h : WM M base g w S s) (hi : Inv S) :
    Calls Try.prog 38 #[.pointer (some ⟨g, 0, none⟩), opV o] w fun e w' => e = .returned (.tuple #[.int .i64 (tuV S k o), .int .i64 (tuE S k o)]) ∧ WM M base g w' (tuS S k o) (turS M S s k o) ∧ MKg M g w w' := by
  have HM : Hid (∀ w1, Below w.heap.size w w1 → WM M base g w1 S s) := fun w1 hb => h.below hb
  have hg := h.wok.glt
  have HIV : Hid (Inv S ∧ M.R s (vw S)) := ⟨hi, h.rel⟩
  have hkk : o.kind = 1 ∨ o.kind = 2 ∨ o.kind = 3 ∨ o.kind = 4 ∨ o.kind = 5 ∨ o.kind = 6 ∨ o.kind = 7 ∨ o.kind = 8 ∨ o.kind = 9 := by omega
  rcases hkk with hh | hh | hh | hh | hh | hh | hh | hh | hh
  · obtain ⟨e1, e2, e3⟩ := tu_1 S k o hh
    have e4 : turS M S s k o = s := by unfold turS; rw [hh]; rfl
    have HC : Hid (∀ w1, Below w.heap.size w w1 → Calls Try.prog 46 #[.pointer (some ⟨g, 0, none⟩), .pointer (some ⟨g, k * 10, none⟩), opV o] w1 fun e w' => e = .returned (.tuple #[.int .i64 (tuV S k o), .int .i64 (tuE S k o)]) ∧ WM M base g w' (tuS S k o) (turS M S s k o) ∧ MKg M g w1 w') := fun w1 hb => by
      rw [e1, e2, e3, e4]
      have hm := HM.out w1 hb
      refine (mapNew_any M.mv base g S k hk o hw1 w1 hm.wok hi).mono ?_
      rintro e w' ⟨he, hw, hs⟩
      exact ⟨he, hm.alone hw hs (by 
        split
        · rename_i hz
          obtain ⟨v1, v2, v3, v4⟩ := vw_map hz
          refine M.grow HIV.out.2 v1 v2 v3 v4 (vw_good ?_)
          have hd := pinv_own (hi.1 k) hlk o hi.2
          unfold own14 at hd
          rw [if_pos hh, if_pos hz] at hd
          exact inv_upd hi hk hd.1 hd.2
        · exact HIV.out.2)⟩
    clear e1 e2 e3 e4 h hi
    generalize tuV S k o = V at *
    generalize tuE S k o = E at *
    generalize tuS S k o = S2 at *
    generalize turS M S s k o = Z at *
    obtain ⟨kind, proc, page, count, rights, key, tagged, draw, addr, size, value, tag⟩ := o
    simp only at hh hp
    subst hh
    subst hp
    have HBA : Hid (Below w.heap.size w (w.alloc (.cells #[.int .i64 1, .int .i64 (k : Int), .int .i64 page, .int .i64 count, .int .i64 rights, .int .i64 key, .bool tagged, .int .i64 draw, .int .i64 addr, .int .i64 size, .int .i64 value, .int .i64 tag] 24))) := (Below.refl _ _).alloc (Nat.le_refl _) _
    have bx1 : (w.alloc (.cells #[.int .i64 1, .int .i64 (k : Int), .int .i64 page, .int .i64 count, .int .i64 rights, .int .i64 key, .bool tagged, .int .i64 draw, .int .i64 addr, .int .i64 size, .int .i64 value, .int .i64 tag] 24)).cell? ⟨w.heap.size, 1, none⟩ = some (.int .i64 (k : Int)) := (box12 (Below.refl _ _)).twelve.1.2.1
    have hglt : g < (w.alloc (.cells #[.int .i64 1, .int .i64 (k : Int), .int .i64 page, .int .i64 count, .int .i64 rights, .int .i64 key, .bool tagged, .int .i64 draw, .int .i64 addr, .int .i64 size, .int .i64 value, .int .i64 tag] 24)).heap.size := Nat.lt_of_lt_of_le hg HBA.out.size
    go_enter Try.func38, Try.ntmps38
    go_wp2_with fail
    go_quiet (fail)
    go_wp2_with (go_at_call 46; refine (HC.out _ (below_drewK HBA.out _)).mono ?_; rintro e w1 ⟨rfl, hw1, hsp⟩)
    go_ret2
    exact ⟨rfl, hw1, (MKg.of_below (below_drewK HBA.out _)).trans hsp⟩
  · obtain ⟨e1, e2, e3⟩ := tu_2 S k o hh
    have e4 : turS M S s k o = unmS M S s k o := by unfold turS; rw [hh]; rfl
    have HC : Hid (∀ w1, Below w.heap.size w w1 → Calls Try.prog 47 #[.pointer (some ⟨g, 0, none⟩), .pointer (some ⟨g, k * 10, none⟩), opV o] w1 fun e w' => e = .returned (.int .i64 (tuE S k o)) ∧ WM M base g w' (tuS S k o) (turS M S s k o) ∧ MKg M g w1 w') := fun w1 hb => by
      rw [e2, e3, e4]
      exact unmap14_any M base g S s k hk hlk o hp hw1 w1 (HM.out w1 hb) hi
    have HV0 : Hid (tuV S k o = 0) := by show _ = _; rw [e1]; split <;> rfl
    clear e1 e2 e3 e4 h hi
    generalize tuV S k o = V at *
    generalize tuE S k o = E at *
    generalize tuS S k o = S2 at *
    generalize turS M S s k o = Z at *
    obtain ⟨kind, proc, page, count, rights, key, tagged, draw, addr, size, value, tag⟩ := o
    simp only at hh hp
    subst hh
    subst hp
    have HBA : Hid (Below w.heap.size w (w.alloc (.cells #[.int .i64 2, .int .i64 (k : Int), .int .i64 page, .int .i64 count, .int .i64 rights, .int .i64 key, .bool tagged, .int .i64 draw, .int .i64 addr, .int .i64 size, .int .i64 value, .int .i64 tag] 24))) := (Below.refl _ _).alloc (Nat.le_refl _) _
    have bx1 : (w.alloc (.cells #[.int .i64 2, .int .i64 (k : Int), .int .i64 page, .int .i64 count, .int .i64 rights, .int .i64 key, .bool tagged, .int .i64 draw, .int .i64 addr, .int .i64 size, .int .i64 value, .int .i64 tag] 24)).cell? ⟨w.heap.size, 1, none⟩ = some (.int .i64 (k : Int)) := (box12 (Below.refl _ _)).twelve.1.2.1
    have hglt : g < (w.alloc (.cells #[.int .i64 2, .int .i64 (k : Int), .int .i64 page, .int .i64 count, .int .i64 rights, .int .i64 key, .bool tagged, .int .i64 draw, .int .i64 addr, .int .i64 size, .int .i64 value, .int .i64 tag] 24)).heap.size := Nat.lt_of_lt_of_le hg HBA.out.size
    go_enter Try.func38, Try.ntmps38
    go_wp2_with fail
    go_quiet (fail)
    go_wp2_with (go_at_call 47; refine (HC.out _ (below_drewK HBA.out _)).mono ?_; rintro e w1 ⟨rfl, hw1, hsp⟩)
    go_ret2
    obtain rfl := HV0.out
    exact ⟨rfl, hw1, (MKg.of_below (below_drewK HBA.out _)).trans hsp⟩
  · obtain ⟨e1, e2, e3⟩ := tu_3 S k o hh
    have e4 : turS M S s k o = s := by unfold turS; rw [hh]; rfl
    have HC : Hid (∀ w1, Below w.heap.size w w1 → Calls Try.prog 48 #[.pointer (some ⟨g, k * 10, none⟩), opV o] w1 fun e w' => e = .returned (.int .i64 (tuE S k o)) ∧ WM M base g w' (tuS S k o) (turS M S s k o) ∧ MKg M g w1 w') := fun w1 hb => by
      rw [e2, e3, e4]
      have hm := HM.out w1 hb
      refine (protect14_any M.mv base g S k hk o hw1 w1 hm.wok hi).mono ?_
      rintro e w' ⟨he, hw, hs⟩
      exact ⟨he, hm.alone hw hs (by rw [vw_keep S k (proP (S k) o) _ rfl (fun h0 q => ch_same (proE_ok h0).2.2.2.2 q) rfl rfl]; exact HIV.out.2)⟩
    have HV0 : Hid (tuV S k o = 0) := by show _ = _; rw [e1]; split <;> rfl
    clear e1 e2 e3 e4 h hi
    generalize tuV S k o = V at *
    generalize tuE S k o = E at *
    generalize tuS S k o = S2 at *
    generalize turS M S s k o = Z at *
    obtain ⟨kind, proc, page, count, rights, key, tagged, draw, addr, size, value, tag⟩ := o
    simp only at hh hp
    subst hh
    subst hp
    have HBA : Hid (Below w.heap.size w (w.alloc (.cells #[.int .i64 3, .int .i64 (k : Int), .int .i64 page, .int .i64 count, .int .i64 rights, .int .i64 key, .bool tagged, .int .i64 draw, .int .i64 addr, .int .i64 size, .int .i64 value, .int .i64 tag] 24))) := (Below.refl _ _).alloc (Nat.le_refl _) _
    have bx1 : (w.alloc (.cells #[.int .i64 3, .int .i64 (k : Int), .int .i64 page, .int .i64 count, .int .i64 rights, .int .i64 key, .bool tagged, .int .i64 draw, .int .i64 addr, .int .i64 size, .int .i64 value, .int .i64 tag] 24)).cell? ⟨w.heap.size, 1, none⟩ = some (.int .i64 (k : Int)) := (box12 (Below.refl _ _)).twelve.1.2.1
    have hglt : g < (w.alloc (.cells #[.int .i64 3, .int .i64 (k : Int), .int .i64 page, .int .i64 count, .int .i64 rights, .int .i64 key, .bool tagged, .int .i64 draw, .int .i64 addr, .int .i64 size, .int .i64 value, .int .i64 tag] 24)).heap.size := Nat.lt_of_lt_of_le hg HBA.out.size
    go_enter Try.func38, Try.ntmps38
    go_wp2_with fail
    go_quiet (fail)
    go_wp2_with (go_at_call 48; refine (HC.out _ (below_drewK HBA.out _)).mono ?_; rintro e w1 ⟨rfl, hw1, hsp⟩)
    go_ret2
    obtain rfl := HV0.out
    exact ⟨rfl, hw1, (MKg.of_below (below_drewK HBA.out _)).trans hsp⟩
  · obtain ⟨e1, e2, e3⟩ := tu_4 S k o hh
    have e4 : turS M S s k o = s := by unfold turS; rw [hh]; rfl
    have HC : Hid (∀ w1, Below w.heap.size w w1 → Calls Try.prog 49 #[.pointer (some ⟨g, k * 10, none⟩), opV o] w1 fun e w' => e = .returned (.int .i64 (tuE S k o)) ∧ WM M base g w' (tuS S k o) (turS M S s k o) ∧ MKg M g w1 w') := fun w1 hb => by
      rw [e2, e3, e4]
      have hm := HM.out w1 hb
      refine (seal14_any M.mv base g S k hk o hw1 w1 hm.wok hi).mono ?_
      rintro e w' ⟨he, hw, hs⟩
      exact ⟨he, hm.alone hw hs (by rw [vw_keep S k (seaP (S k) o) _ rfl (fun h0 q => ch_same (seaE_ok h0).2.2 q) rfl rfl]; exact HIV.out.2)⟩
    have HV0 : Hid (tuV S k o = 0) := by show _ = _; rw [e1]; split <;> rfl
    clear e1 e2 e3 e4 h hi
    generalize tuV S k o = V at *
    generalize tuE S k o = E at *
    generalize tuS S k o = S2 at *
    generalize turS M S s k o = Z at *
    obtain ⟨kind, proc, page, count, rights, key, tagged, draw, addr, size, value, tag⟩ := o
    simp only at hh hp
    subst hh
    subst hp
    have HBA : Hid (Below w.heap.size w (w.alloc (.cells #[.int .i64 4, .int .i64 (k : Int), .int .i64 page, .int .i64 count, .int .i64 rights, .int .i64 key, .bool tagged, .int .i64 draw, .int .i64 addr, .int .i64 size, .int .i64 value, .int .i64 tag] 24))) := (Below.refl _ _).alloc (Nat.le_refl _) _
    have bx1 : (w.alloc (.cells #[.int .i64 4, .int .i64 (k : Int), .int .i64 page, .int .i64 count, .int .i64 rights, .int .i64 key, .bool tagged, .int .i64 draw, .int .i64 addr, .int .i64 size, .int .i64 value, .int .i64 tag] 24)).cell? ⟨w.heap.size, 1, none⟩ = some (.int .i64 (k : Int)) := (box12 (Below.refl _ _)).twelve.1.2.1
    have hglt : g < (w.alloc (.cells #[.int .i64 4, .int .i64 (k : Int), .int .i64 page, .int .i64 count, .int .i64 rights, .int .i64 key, .bool tagged, .int .i64 draw, .int .i64 addr, .int .i64 size, .int .i64 value, .int .i64 tag] 24)).heap.size := Nat.lt_of_lt_of_le hg HBA.out.size
    go_enter Try.func38, Try.ntmps38
    go_wp2_with fail
    go_quiet (fail)
    go_wp2_with (go_at_call 49; refine (HC.out _ (below_drewK HBA.out _)).mono ?_; rintro e w1 ⟨rfl, hw1, hsp⟩)
    go_ret2
    obtain rfl := HV0.out
    exact ⟨rfl, hw1, (MKg.of_below (below_drewK HBA.out _)).trans hsp⟩
  · obtain ⟨e1, e2, e3⟩ := tu_5 S k o hh
    have e4 : turS M S s k o = s := by unfold turS; rw [hh]; rfl
    have HC : Hid (∀ w1, Below w.heap.size w w1 → Calls Try.prog 50 #[.pointer (some ⟨g, k * 10, none⟩)] w1 fun e w' => e = .returned (.tuple #[.int .i64 (tuV S k o), .int .i64 (tuE S k o)]) ∧ WM M base g w' (tuS S k o) (turS M S s k o) ∧ MKg M g w1 w') := fun w1 hb => by
      rw [show tuV S k o = nwN (S k).K by rw [e1]; unfold nwE nwN; split <;> simp, e2, e3, e4]
      have hm := HM.out w1 hb
      refine (newKey_any M.mv base g S k hk w1 hm.wok).mono ?_
      rintro e w' ⟨he, hw, hs⟩
      exact ⟨he, hm.alone hw hs (by rw [vw_keep S k { S k with K := nwL (S k).K } _ rfl (fun _ _ => rfl) rfl rfl]; exact HIV.out.2)⟩
    clear e1 e2 e3 e4 h hi
    generalize tuV S k o = V at *
    generalize tuE S k o = E at *
    generalize tuS S k o = S2 at *
    generalize turS M S s k o = Z at *
    obtain ⟨kind, proc, page, count, rights, key, tagged, draw, addr, size, value, tag⟩ := o
    simp only at hh hp
    subst hh
    subst hp
    have HBA : Hid (Below w.heap.size w (w.alloc (.cells #[.int .i64 5, .int .i64 (k : Int), .int .i64 page, .int .i64 count, .int .i64 rights, .int .i64 key, .bool tagged, .int .i64 draw, .int .i64 addr, .int .i64 size, .int .i64 value, .int .i64 tag] 24))) := (Below.refl _ _).alloc (Nat.le_refl _) _
    have bx1 : (w.alloc (.cells #[.int .i64 5, .int .i64 (k : Int), .int .i64 page, .int .i64 count, .int .i64 rights, .int .i64 key, .bool tagged, .int .i64 draw, .int .i64 addr, .int .i64 size, .int .i64 value, .int .i64 tag] 24)).cell? ⟨w.heap.size, 1, none⟩ = some (.int .i64 (k : Int)) := (box12 (Below.refl _ _)).twelve.1.2.1
    have hglt : g < (w.alloc (.cells #[.int .i64 5, .int .i64 (k : Int), .int .i64 page, .int .i64 count, .int .i64 rights, .int .i64 key, .bool tagged, .int .i64 draw, .int .i64 addr, .int .i64 size, .int .i64 value, .int .i64 tag] 24)).heap.size := Nat.lt_of_lt_of_le hg HBA.out.size
    go_enter Try.func38, Try.ntmps38
    go_wp2_with fail
    go_quiet (fail)
    go_wp2_with (go_at_call 50; refine (HC.out _ (below_drewK HBA.out _)).mono ?_; rintro e w1 ⟨rfl, hw1, hsp⟩)
    go_ret2
    exact ⟨rfl, hw1, (MKg.of_below (below_drewK HBA.out _)).trans hsp⟩
  · obtain ⟨e1, e2, e3⟩ := tu_6 S k o hh
    have e4 : turS M S s k o = s := by unfold turS; rw [hh]; rfl
    have HC : Hid (∀ w1, Below w.heap.size w w1 → Calls Try.prog 51 #[.pointer (some ⟨g, k * 10, none⟩), opV o] w1 fun e w' => e = .returned (.int .i64 (tuE S k o)) ∧ WM M base g w' (tuS S k o) (turS M S s k o) ∧ MKg M g w1 w') := fun w1 hb => by
      rw [e2, e3, e4]
      have hm := HM.out w1 hb
      refine (freeKey_any M.mv base g S k hk o w1 hm.wok hi).mono ?_
      rintro e w' ⟨he, hw, hs⟩
      exact ⟨he, hm.alone hw hs (by rw [vw_keep S k { S k with K := frL (S k).K o.key } _ rfl (fun _ _ => rfl) rfl rfl]; exact HIV.out.2)⟩
    have HV0 : Hid (tuV S k o = 0) := by show _ = _; rw [e1]; split <;> rfl
    clear e1 e2 e3 e4 h hi
    generalize tuV S k o = V at *
    generalize tuE S k o = E at *
    generalize tuS S k o = S2 at *
    generalize turS M S s k o = Z at *
    obtain ⟨kind, proc, page, count, rights, key, tagged, draw, addr, size, value, tag⟩ := o
    simp only at hh hp
    subst hh
    subst hp
    have HBA : Hid (Below w.heap.size w (w.alloc (.cells #[.int .i64 6, .int .i64 (k : Int), .int .i64 page, .int .i64 count, .int .i64 rights, .int .i64 key, .bool tagged, .int .i64 draw, .int .i64 addr, .int .i64 size, .int .i64 value, .int .i64 tag] 24))) := (Below.refl _ _).alloc (Nat.le_refl _) _
    have bx1 : (w.alloc (.cells #[.int .i64 6, .int .i64 (k : Int), .int .i64 page, .int .i64 count, .int .i64 rights, .int .i64 key, .bool tagged, .int .i64 draw, .int .i64 addr, .int .i64 size, .int .i64 value, .int .i64 tag] 24)).cell? ⟨w.heap.size, 1, none⟩ = some (.int .i64 (k : Int)) := (box12 (Below.refl _ _)).twelve.1.2.1
    have hglt : g < (w.alloc (.cells #[.int .i64 6, .int .i64 (k : Int), .int .i64 page, .int .i64 count, .int .i64 rights, .int .i64 key, .bool tagged, .int .i64 draw, .int .i64 addr, .int .i64 size, .int .i64 value, .int .i64 tag] 24)).heap.size := Nat.lt_of_lt_of_le hg HBA.out.size
    go_enter Try.func38, Try.ntmps38
    go_wp2_with fail
    go_quiet (fail)
    go_wp2_with (go_at_call 51; refine (HC.out _ (below_drewK HBA.out _)).mono ?_; rintro e w1 ⟨rfl, hw1, hsp⟩)
    go_ret2
    obtain rfl := HV0.out
    exact ⟨rfl, hw1, (MKg.of_below (below_drewK HBA.out _)).trans hsp⟩
  · obtain ⟨e1, e2, e3⟩ := tu_7 S k o hh
    have e4 : turS M S s k o = s := by unfold turS; rw [hh]; rfl
    have HC : Hid (∀ w1, Below w.heap.size w w1 → Calls Try.prog 52 #[.pointer (some ⟨g, k * 10, none⟩), opV o] w1 fun e w' => e = .returned (.int .i64 (tuE S k o)) ∧ WM M base g w' (tuS S k o) (turS M S s k o) ∧ MKg M g w1 w') := fun w1 hb => by
      rw [e2, e3, e4]
      have hm := HM.out w1 hb
      refine (setKey_any M.mv base g S k hk o w1 hm.wok hi).mono ?_
      rintro e w' ⟨he, hw, hs⟩
      exact ⟨he, hm.alone hw hs (by rw [vw_keep S k { S k with K := stL (S k).K o.key o.rights } _ rfl (fun _ _ => rfl) rfl rfl]; exact HIV.out.2)⟩
    have HV0 : Hid (tuV S k o = 0) := by show _ = _; rw [e1]; split <;> rfl
    clear e1 e2 e3 e4 h hi
    generalize tuV S k o = V at *
    generalize tuE S k o = E at *
    generalize tuS S k o = S2 at *
    generalize turS M S s k o = Z at *
    obtain ⟨kind, proc, page, count, rights, key, tagged, draw, addr, size, value, tag⟩ := o
    simp only at hh hp
    subst hh
    subst hp
    have HBA : Hid (Below w.heap.size w (w.alloc (.cells #[.int .i64 7, .int .i64 (k : Int), .int .i64 page, .int .i64 count, .int .i64 rights, .int .i64 key, .bool tagged, .int .i64 draw, .int .i64 addr, .int .i64 size, .int .i64 value, .int .i64 tag] 24))) := (Below.refl _ _).alloc (Nat.le_refl _) _
    have bx1 : (w.alloc (.cells #[.int .i64 7, .int .i64 (k : Int), .int .i64 page, .int .i64 count, .int .i64 rights, .int .i64 key, .bool tagged, .int .i64 draw, .int .i64 addr, .int .i64 size, .int .i64 value, .int .i64 tag] 24)).cell? ⟨w.heap.size, 1, none⟩ = some (.int .i64 (k : Int)) := (box12 (Below.refl _ _)).twelve.1.2.1
    have hglt : g < (w.alloc (.cells #[.int .i64 7, .int .i64 (k : Int), .int .i64 page, .int .i64 count, .int .i64 rights, .int .i64 key, .bool tagged, .int .i64 draw, .int .i64 addr, .int .i64 size, .int .i64 value, .int .i64 tag] 24)).heap.size := Nat.lt_of_lt_of_le hg HBA.out.size
    go_enter Try.func38, Try.ntmps38
    go_wp2_with fail
    go_quiet (fail)
    go_wp2_with (go_at_call 52; refine (HC.out _ (below_drewK HBA.out _)).mono ?_; rintro e w1 ⟨rfl, hw1, hsp⟩)
    go_ret2
    obtain rfl := HV0.out
    exact ⟨rfl, hw1, (MKg.of_below (below_drewK HBA.out _)).trans hsp⟩
  · obtain ⟨e1, e2, e3⟩ := tu_8 S k o hh
    have e4 : turS M S s k o = forS M S s k := by unfold turS; rw [hh]; rfl
    have HC : Hid (∀ w1, Below w.heap.size w w1 → Calls Try.prog 53 #[.pointer (some ⟨g, 0, none⟩), .int .i64 (k : Int)] w1 fun e w' => e = .returned (.tuple #[.int .i64 (tuV S k o), .int .i64 (tuE S k o)]) ∧ WM M base g w' (tuS S k o) (turS M S s k o) ∧ MKg M g w1 w') := fun w1 hb => by
      rw [e1, e2, e3, e4]
      exact fork_any M base g S s k hk hlk w1 (HM.out w1 hb) hi
    clear e1 e2 e3 e4 h hi
    generalize tuV S k o = V at *
    generalize tuE S k o = E at *
    generalize tuS S k o = S2 at *
    generalize turS M S s k o = Z at *
    obtain ⟨kind, proc, page, count, rights, key, tagged, draw, addr, size, value, tag⟩ := o
    simp only at hh hp
    subst hh
    subst hp
    have HBA : Hid (Below w.heap.size w (w.alloc (.cells #[.int .i64 8, .int .i64 (k : Int), .int .i64 page, .int .i64 count, .int .i64 rights, .int .i64 key, .bool tagged, .int .i64 draw, .int .i64 addr, .int .i64 size, .int .i64 value, .int .i64 tag] 24))) := (Below.refl _ _).alloc (Nat.le_refl _) _
    have bx1 : (w.alloc (.cells #[.int .i64 8, .int .i64 (k : Int), .int .i64 page, .int .i64 count, .int .i64 rights, .int .i64 key, .bool tagged, .int .i64 draw, .int .i64 addr, .int .i64 size, .int .i64 value, .int .i64 tag] 24)).cell? ⟨w.heap.size, 1, none⟩ = some (.int .i64 (k : Int)) := (box12 (Below.refl _ _)).twelve.1.2.1
    have hglt : g < (w.alloc (.cells #[.int .i64 8, .int .i64 (k : Int), .int .i64 page, .int .i64 count, .int .i64 rights, .int .i64 key, .bool tagged, .int .i64 draw, .int .i64 addr, .int .i64 size, .int .i64 value, .int .i64 tag] 24)).heap.size := Nat.lt_of_lt_of_le hg HBA.out.size
    go_enter Try.func38, Try.ntmps38
    go_wp2_with fail
    go_quiet (fail)
    go_wp2_with (go_at_call 53; refine (HC.out _ (below_drewK HBA.out _)).mono ?_; rintro e w1 ⟨rfl, hw1, hsp⟩)
    go_ret2
    exact ⟨rfl, hw1, (MKg.of_below (below_drewK HBA.out _)).trans hsp⟩
  · obtain ⟨e1, e2, e3⟩ := tu_9 S k o hh
    have e4 : turS M S s k o = M.sExit s k := by unfold turS; rw [hh]; rfl
    rw [e1, e2, e3, e4]
    clear e1 e2 e3 e4
    obtain ⟨kind, proc, page, count, rights, key, tagged, draw, addr, size, value, tag⟩ := o
    simp only at hh hp
    subst hh
    subst hp
    have HBA : Hid (Below w.heap.size w (w.alloc (.cells #[.int .i64 9, .int .i64 (k : Int), .int .i64 page, .int .i64 count, .int .i64 rights, .int .i64 key, .bool tagged, .int .i64 draw, .int .i64 addr, .int .i64 size, .int .i64 value, .int .i64 tag] 24))) := (Below.refl _ _).alloc (Nat.le_refl _) _
    have bx1 : (w.alloc (.cells #[.int .i64 9, .int .i64 (k : Int), .int .i64 page, .int .i64 count, .int .i64 rights, .int .i64 key, .bool tagged, .int .i64 draw, .int .i64 addr, .int .i64 size, .int .i64 value, .int .i64 tag] 24)).cell? ⟨w.heap.size, 1, none⟩ = some (.int .i64 (k : Int)) := (box12 (Below.refl _ _)).twelve.1.2.1
    have hglt : g < (w.alloc (.cells #[.int .i64 9, .int .i64 (k : Int), .int .i64 page, .int .i64 count, .int .i64 rights, .int .i64 key, .bool tagged, .int .i64 draw, .int .i64 addr, .int .i64 size, .int .i64 value, .int .i64 tag] 24)).heap.size := Nat.lt_of_lt_of_le hg HBA.out.size
    have HT : Hid (∀ n, ((w.alloc (.cells #[.int .i64 9, .int .i64 (k : Int), .int .i64 page, .int .i64 count, .int .i64 rights, .int .i64 key, .bool tagged, .int .i64 draw, .int .i64 addr, .int .i64 size, .int .i64 value, .int .i64 tag] 24)).drewN n).there g (k * 10) zPl.length) := fun n => (HM.out _ (below_drewK HBA.out n)).wok.there (by show k * 10 + 10 ≤ 41; omega)
    have HSZ : Hid ((Try.prog.info? 88).map (·.size) = some zPl.length) := info_process
    have HEX : Hid (∀ n w4, Below (((w.alloc (.cells #[.int .i64 9, .int .i64 (k : Int), .int .i64 page, .int .i64 count, .int .i64 rights, .int .i64 key, .bool tagged, .int .i64 draw, .int .i64 addr, .int .i64 size, .int .i64 value, .int .i64 tag] 24)).drewN n).setCells g (k * 10) zPl).heap.size (((w.alloc (.cells #[.int .i64 9, .int .i64 (k : Int), .int .i64 page, .int .i64 count, .int .i64 rights, .int .i64 key, .bool tagged, .int .i64 draw, .int .i64 addr, .int .i64 size, .int .i64 value, .int .i64 tag] 24)).drewN n).setCells g (k * 10) zPl) w4 → M.R (M.sExit s k) (vw (upd S k noP)) ∧ Calls Try.prog M.fExit #[.pointer (some M.pm), .int .i64 k] w4 fun e w' => (∃ v, e = .returned v) ∧ WM M base g w' (upd S k noP) (M.sExit s k) ∧ MKg M g w w' ∧ MK M.lo M.wr w4 w') := fun n w4 hb => by
      have hm := HM.out _ (below_drewK HBA.out n)
      have hgo := hm.wok.gone hk
      obtain ⟨-, -, xs, hrow, -⟩ := hm.wok
      have hs : Spare g ((w.alloc (.cells #[.int .i64 9, .int .i64 (k : Int), .int .i64 page, .int .i64 count, .int .i64 rights, .int .i64 key, .bool tagged, .int .i64 draw, .int .i64 addr, .int .i64 size, .int .i64 value, .int .i64 tag] 24)).drewN n) (((w.alloc (.cells #[.int .i64 9, .int .i64 (k : Int), .int .i64 page, .int .i64 count, .int .i64 rights, .int .i64 key, .bool tagged, .int .i64 draw, .int .i64 addr, .int .i64 size, .int .i64 value, .int .i64 tag] 24)).drewN n).setCells g (k * 10) zPl) := (Spare.refl _ _).setCells _ _
      have hok : M.ok (((w.alloc (.cells #[.int .i64 9, .int .i64 (k : Int), .int .i64 page, .int .i64 count, .int .i64 rights, .int .i64 key, .bool tagged, .int .i64 draw, .int .i64 addr, .int .i64 size, .int .i64 value, .int .i64 tag] 24)).drewN n).setCells g (k * 10) zPl) s := M.spare hm.ok hs hrow M.hdep.1
      rw [vw_exit]
      obtain ⟨r1, r2⟩ := M.exit (k := k) (M.below hok hb) hm.rel (vw_good hi) hk (by simp [vw, hk, hlk])
      refine ⟨r1, r2.mono ?_⟩
      rintro e w' ⟨he, hok', hmk⟩
      exact ⟨he, ⟨(hgo.below hb).byMK hmk M.hwr.1 M.hwr.2.1, hok', by rw [vw_exit]; exact r1⟩, (MKg.of_spare (((Spare.of_below (below_drewK HBA.out n)).setCells _ _).below hb)).trans (MKg.of_mk hmk), hmk⟩
    have HCM : Hid (∀ n, (((w.alloc (.cells #[.int .i64 9, .int .i64 (k : Int), .int .i64 page, .int .i64 count, .int .i64 rights, .int .i64 key, .bool tagged, .int .i64 draw, .int .i64 addr, .int .i64 size, .int .i64 value, .int .i64 tag] 24)).drewN n).setCells g (k * 10) zPl).cell? ⟨g, 40, none⟩ = some (.iface M.mty (.pointer (some M.pm))) ∧ (((w.alloc (.cells #[.int .i64 9, .int .i64 (k : Int), .int .i64 page, .int .i64 count, .int .i64 rights, .int .i64 key, .bool tagged, .int .i64 draw, .int .i64 addr, .int .i64 size, .int .i64 value, .int .i64 tag] 24)).drewN n).setCells g (k * 10) zPl).cell? ⟨w.heap.size, 1, none⟩ = some (.int .i64 (k : Int)) ∧ OwnRow (((w.alloc (.cells #[.int .i64 9, .int .i64 (k : Int), .int .i64 page, .int .i64 count, .int .i64 rights, .int .i64 key, .bool tagged, .int .i64 draw, .int .i64 addr, .int .i64 size, .int .i64 value, .int .i64 tag] 24)).drewN n).setCells g (k * 10) zPl) w.heap.size 24 [.int .i64 9, .int .i64 (k : Int), .int .i64 page, .int .i64 count, .int .i64 rights, .int .i64 key, .bool tagged, .int .i64 draw, .int .i64 addr, .int .i64 size, .int .i64 value, .int .i64 tag]) := fun n => by
      have hm := HM.out _ (below_drewK HBA.out n)
      refine ⟨(hm.wok.gone hk).mem, ?_, ?_⟩
      · exact ((Spare.refl g ((w.alloc (.cells #[.int .i64 9, .int .i64 (k : Int), .int .i64 page, .int .i64 count, .int .i64 rights, .int .i64 key, .bool tagged, .int .i64 draw, .int .i64 addr, .int .i64 size, .int .i64 value, .int .i64 tag] 24)).drewN n)).setCells _ _).cell bx1 (Nat.ne_of_gt hg)
      · exact ((Spare.refl g ((w.alloc (.cells #[.int .i64 9, .int .i64 (k : Int), .int .i64 page, .int .i64 count, .int .i64 rights, .int .i64 key, .bool tagged, .int .i64 draw, .int .i64 addr, .int .i64 size, .int .i64 value, .int .i64 tag] 24)).drewN n)).setCells _ _).row (box12 (below_drewK (Below.refl _ _) n)) (Nat.ne_of_gt hg)
    have hm := fun w => (M.hm w).2.2.1
    have hcf := fun args w => (M.hf args w).2.2.1
    have hwk := (HM.out _ HBA.out).wok
    have c0 := hwk.live hk
    obtain ⟨ra, rc, c1, -⟩ := hwk.regs hk
    obtain ⟨⟨c2, c3, c4, c5⟩, c6, c7, c8, c9⟩ := hwk.keys hk
    have c3' : (w.alloc (.cells #[.int .i64 9, .int .i64 (k : Int), .int .i64 page, .int .i64 count, .int .i64 rights, .int .i64 key, .bool tagged, .int .i64 draw, .int .i64 addr, .int .i64 size, .int .i64 value, .int .i64 tag] 24)).cell? ⟨g, k * 10 + 3, none⟩ = some (.int .i64 (S k).K.2.1) := c3
    have c4' : (w.alloc (.cells #[.int .i64 9, .int .i64 (k : Int), .int .i64 page, .int .i64 count, .int .i64 rights, .int .i64 key, .bool tagged, .int .i64 draw, .int .i64 addr, .int .i64 size, .int .i64 value, .int .i64 tag] 24)).cell? ⟨g, k * 10 + 4, none⟩ = some (.bool (S k).K.2.2.1) := c4
    have c5' : (w.alloc (.cells #[.int .i64 9, .int .i64 (k : Int), .int .i64 page, .int .i64 count, .int .i64 rights, .int .i64 key, .bool tagged, .int .i64 draw, .int .i64 addr, .int .i64 size, .int .i64 value, .int .i64 tag] 24)).cell? ⟨g, k * 10 + 5, none⟩ = some (.int .i64 (S k).K.2.2.2.1) := c5
    have c6' : (w.alloc (.cells #[.int .i64 9, .int .i64 (k : Int), .int .i64 page, .int .i64 count, .int .i64 rights, .int .i64 key, .bool tagged, .int .i64 draw, .int .i64 addr, .int .i64 size, .int .i64 value, .int .i64 tag] 24)).cell? ⟨g, k * 10 + 6, none⟩ = some (.bool (S k).K.2.2.2.2.1) := c6
    have c7' : (w.alloc (.cells #[.int .i64 9, .int .i64 (k : Int), .int .i64 page, .int .i64 count, .int .i64 rights, .int .i64 key, .bool tagged, .int .i64 draw, .int .i64 addr, .int .i64 size, .int .i64 value, .int .i64 tag] 24)).cell? ⟨g, k * 10 + 7, none⟩ = some (.int .i64 (S k).K.2.2.2.2.2.1) := c7
    have c8' : (w.alloc (.cells #[.int .i64 9, .int .i64 (k : Int), .int .i64 page, .int .i64 count, .int .i64 rights, .int .i64 key, .bool tagged, .int .i64 draw, .int .i64 addr, .int .i64 size, .int .i64 value, .int .i64 tag] 24)).cell? ⟨g, k * 10 + 8, none⟩ = some (.bool (S k).K.2.2.2.2.2.2.1) := c8
    have c9' : (w.alloc (.cells #[.int .i64 9, .int .i64 (k : Int), .int .i64 page, .int .i64 count, .int .i64 rights, .int .i64 key, .bool tagged, .int .i64 draw, .int .i64 addr, .int .i64 size, .int .i64 value, .int .i64 tag] 24)).cell? ⟨g, k * 10 + 9, none⟩ = some (.int .i64 (S k).K.2.2.2.2.2.2.2) := c9
    have hfz : ∀ i, (w.alloc (.cells #[.int .i64 9, .int .i64 (k : Int), .int .i64 page, .int .i64 count, .int .i64 rights, .int .i64 key, .bool tagged, .int .i64 draw, .int .i64 addr, .int .i64 size, .int .i64 value, .int .i64 tag] 24)).frozen? ⟨g, i, none⟩ = false := fun i => hwk.free i
    clear c3 c4 c5 c6 c7 c8 c9 hwk h hi hlk hm hcf
    go_enter Try.func38, Try.ntmps38
    go_wp2_with fail
    go_quiet (fail)
    go_wp2_with fail
    clear c0 c1 c2 c3' c4' c5' c6' c7' c8' c9' hfz bx1
    show Code.wp Try.prog _ _ _ (((w.alloc (.cells #[.int .i64 9, .int .i64 (k : Int), .int .i64 page, .int .i64 count, .int .i64 rights, .int .i64 key, .bool tagged, .int .i64 draw, .int .i64 addr, .int .i64 size, .int .i64 value, .int .i64 tag] 24)).drewN nq).setCells g (k * 10) zPl)
    have HE9 : Hid _ := HEX.out nq
    have HC9 : Hid _ := HCM.out nq
    clear HEX HCM HT
    generalize ((w.alloc (.cells #[.int .i64 9, .int .i64 (k : Int), .int .i64 page, .int .i64 count, .int .i64 rights, .int .i64 key, .bool tagged, .int .i64 draw, .int .i64 addr, .int .i64 size, .int .i64 value, .int .i64 tag] 24)).drewN nq).setCells g (k * 10) zPl = W9 at HE9 HC9 ⊢
    have hm := fun w => (M.hm w).2.2.1
    have hcf := fun args w => (M.hf args w).2.2.1
    obtain ⟨d1, d2, d3⟩ := HC9.out
    refine wp_region_noPanic ?_
    refine wp_region_held_drew (S := (fun w' => w'.cell? ⟨g, 40, none⟩ = some (.iface M.mty (.pointer (some M.pm))) ∧ w'.cell? ⟨w.heap.size, 1, none⟩ = some (.int .i64 (k : Int)))) (by kernel_rfl) (by exact ⟨d1, d2⟩) (fun hHeld => ?_)
    refine take_to 0 (some 68) (v := ?_) rfl rfl (by kernel_rfl) (by kernel_rfl) (by kernel_rfl) (fun _ _ _ h => h) (Or.inl ⟨by rfl, ?_⟩) (by assumption) ?_
    rotate_left
    · intro w hSw
      (try dsimp only at hSw)
      go_simp
      with_reducible rfl
    simp only [Act.put, List.setIfInBounds_toArray, List.set_cons_zero, List.set_cons_succ]
    refine take_to 1 (some 69) (v := ?_) rfl rfl (by kernel_rfl) (by kernel_rfl) (by kernel_rfl) (fun _ _ _ h => h) (Or.inl ⟨by rfl, ?_⟩) (by assumption) ?_
    rotate_left
    · intro w hSw
      (try dsimp only at hSw)
      go_simp
      with_reducible rfl
    simp only [Act.put, List.setIfInBounds_toArray, List.set_cons_zero, List.set_cons_succ]
    refine take_to 2 (some 70) (v := ?_) rfl rfl (by kernel_rfl) (by kernel_rfl) (by kernel_rfl) (fun _ _ _ h => h) (Or.inl ⟨by rfl, ?_⟩) (by assumption) ?_
    rotate_left
    · intro w hSw
      (try dsimp only at hSw)
      go_simp
      with_reducible rfl
    simp only [Act.put, List.setIfInBounds_toArray, List.set_cons_zero, List.set_cons_succ]
    refine take_to 3 (some 71) (v := ?_) rfl rfl (by kernel_rfl) (by kernel_rfl) (by kernel_rfl) (fun _ _ _ h => h) (Or.inl ⟨by rfl, ?_⟩) (by assumption) ?_
    rotate_left
    · intro w hSw
      (try dsimp only at hSw)
      go_simp
      with_reducible rfl
    simp only [Act.put, List.setIfInBounds_toArray, List.set_cons_zero, List.set_cons_succ]
    refine take_to 4 (some 72) (v := ?_) rfl rfl (by kernel_rfl) (by kernel_rfl) (by kernel_rfl) (fun _ _ _ h => h) (Or.inl ⟨by rfl, ?_⟩) (by assumption) ?_
    rotate_left
    · intro w hSw
      (try dsimp only at hSw)
      go_simp
      with_reducible rfl
    simp only [Act.put, List.setIfInBounds_toArray, List.set_cons_zero, List.set_cons_succ]
    refine take_to 5 (some 73) (v := ?_) rfl rfl (by kernel_rfl) (by kernel_rfl) (by kernel_rfl) (fun _ _ _ h => h) (Or.inl ⟨by rfl, ?_⟩) (by assumption) ?_
    rotate_left
    · intro w hSw
      (try dsimp only at hSw)
      go_simp
      with_reducible rfl
    simp only [Act.put, List.setIfInBounds_toArray, List.set_cons_zero, List.set_cons_succ]
    refine wpAnyH_ready (rs := [6]) (by kernel_rfl) (by simp) ?_
    refine AllReadyH.cons rfl (fun K hK => ?_) AllReadyH.nil
    go_simp
    refine Calls.mono (HE9.out _ (Below.refl _ _).drew).2 ?_
    rintro e w4 ⟨⟨v, rfl⟩, hm4, hk4, hmk4⟩
    have hr4 := hmk4.row (OwnRow.below d3 (Below.refl _ _).drew (OwnRow.lt d3)) M.hwr.2.2.1
    go_wp2_with fail
    refine hK.out _ _ (by exact ⟨hm4.wok.mem, by rw [OwnRow.cell hr4]; rfl⟩) (fun hHeld => ?_)
    clear hK K
    try simp only [Act.put, List.setIfInBounds_toArray, List.set_cons_zero, List.set_cons_succ]
    refine wpAnyH_done (by kernel_rfl) ?_ _
    refine NoPanic.normal ?_
    go_wp2
    go_ret2
    exact ⟨rfl, hm4, hk4⟩

end Go.Proofs.Ytbiipnojhjhejaa

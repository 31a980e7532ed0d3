/- The contract of flat.world.look: what loads, stores, fetches and tags answer and leave. -/
import Derived.Test.YtbiipnojhjhejaaFlat10
namespace Go.Proofs.Ytbiipnojhjhejaa
set_option maxRecDepth 100000
open Go.RowKit
set_option linter.unusedSimpArgs false
set_option linter.unusedVariables false

/-- An answer as it is returned. -/
abbrev ansV (a : An) : Value := .agg #[.int .i64 a.1, .int .i64 a.2.1, .int .i64 a.2.2.1, .int .i64 a.2.2.2]

theorem info_ans : (Try.prog.info? 40).map (·.size) = some 4 := by kernel_rfl

theorem tchE_two {o : O12} (h : tchE o ≠ 0) : tchE o = 2 := by
  unfold tchE at *
  split
  · rfl
  · rename_i h1
    rw [if_neg h1] at h
    split
    · rfl
    · rename_i h2; rw [if_neg h2] at h; exact absurd rfl h

theorem touch_nat {o : O12} (h : tchE o = 0) : ∃ f t : Nat, o.addr = f ∧ o.addr + tMany o * tEach o = t ∧ tF o = f ∧ tT o = t ∧ f < t ∧ t ≤ 4096 ∧ (o.kind ≠ 13 → t - f ≤ 4) := by
  obtain ⟨h1, ⟨h2, h3⟩, h4, h5, h6⟩ := tchE_ok h
  have h7 : 1 ≤ tMany o * tEach o := by
    unfold tEach
    split <;> omega
  refine ⟨o.addr.toNat, (o.addr + tMany o * tEach o).toNat, by omega, by omega, rfl, rfl, by omega, by omega, fun hk => ?_⟩
  have e1 : tEach o = 1 := by unfold tEach; rw [if_neg hk]
  have e2 : tMost o = 4 := by unfold tMost; rw [if_neg hk]
  rw [e1] at *
  rw [e2] at h3
  omega

/-- Where no page faults there are pages. -/
theorem flt_there (p : Pr) (o : O12) : ∀ (n f t : Nat), (flt p o n f t).1 = 0 → (f < t → t ≤ f / 64 * 64 + n * 64) → ∀ a, f ≤ a → a < t → (atR p.L ((a / 64 : Nat) : Int)).isSome = true
  | 0, f, t, _, hn, a, h1, h2 => by omega
  | n + 1, f, t, h, hn, a, h1, h2 => by
    rw [flt, if_pos (by omega)] at h
    obtain ⟨e, he⟩ : ∃ e, e = min t ((f / 64 + 1) * 64) := ⟨_, rfl⟩
    rw [← he] at h
    by_cases hz : (pfl p o f e).1 = 0
    · rw [if_pos hz] at h
      by_cases hae : a < e
      · have : a / 64 = f / 64 := by omega
        rw [this]
        cases hq : atR p.L ((f / 64 : Nat) : Int) with
        | some _ => rfl
        | none =>
          unfold pfl at hz
          rw [hq] at hz
          cases hz
      · exact flt_there p o n e t h (by omega) a (by omega) h2
    · rw [if_neg hz] at h; exact absurd h hz

/-- What memory is, behind a look. -/
def lookS {σ : Type} (M : Mem σ) (S : W4) (s : σ) (k : Nat) (o : O12) : σ :=
  if tchE o = 0 then if (flt (S k) o 65 (tF o) (tT o)).1 = 0 then if o.kind = 13 then marS M (fauS M S s k o) k o else if o.kind = 11 then stoS M (fauS M S s k o) k o else loaS M (fauS M S s k o) k o else fauS M S s k o else s

/-- While a look is under way: processes and memory, what is done, and the answer's variable. -/
structure LookI {σ : Type} (M : Mem σ) (base g : Nat) (w : World) (n0 : Nat) (cs : List Value) (S : W4) (st : σ) (W : World) : Prop where
  wm : WM M base g W S st
  keep : MKg M g w W
  op : OwnRow W n0 24 cs
  ans : OwnRow W (n0 + 1) 40 [.int .i64 0, .int .i64 0, .int .i64 0, .int .i64 0]

theorem LookI.step {σ : Type} {M : Mem σ} {base g : Nat} {w : World} {n0 : Nat} {cs : List Value} {S S' : W4} {st st' : σ} {W w' : World} (h : LookI M base g w n0 cs S st W) (hg : g < n0) (hm : WM M base g w' S' st') (hk : MKg M g W w') : LookI M base g w n0 cs S' st' w' :=
  ⟨hm, h.keep.trans hk, hk.row h.op (Nat.ne_of_gt hg) M.hwr.2.2.1, hk.row h.ans (by omega) M.hwr.2.2.2.1⟩

/-- A row of an answer is written. -/
theorem WM.poke {σ : Type} {M : Mem σ} {base g : Nat} {w W : World} {S : W4} {st : σ} (h : WM M base g W S st) (hk : MKg M g w W) {b : Nat} {xs : List Value} (hu : OwnRow W b 40 xs) (hb : w.heap.size ≤ b) (i : Nat) (x : Value) :
    WM M base g (W.setCell ⟨b, i, none⟩ x) S st ∧ MKg M g w (W.setCell ⟨b, i, none⟩ x) ∧ OwnRow (W.setCell ⟨b, i, none⟩ x) b 40 (xs.set i x) := by
  have hs : Spare b W (W.setCell ⟨b, i, none⟩ x) := (Spare.refl _ _).set i x
  have hm : MK 0 (fun t => t == 40) W (W.setCell ⟨b, i, none⟩ x) := MK.of_spare hs (Nat.zero_le _) hu (by rfl)
  refine ⟨⟨h.wok.byMK hm (by rfl) (by rfl), M.spare h.ok hs hu M.hdep.2.1, h.rel⟩, ?_, hu.set i x⟩
  refine ⟨hs.2.2.1.trans hk.os, hs.2.2.2.1.trans hk.tape, hs.2.2.2.2.trans hk.output, Nat.le_trans hk.size hs.1, fun j o hi hn hc => ?_⟩
  have h1 := hk.same j o hi hn hc
  have := (Array.getElem?_eq_some_iff.1 hi).1
  exact (hs.2.1 j (Array.getElem?_eq_some_iff.1 h1).1 (by omega)).trans h1

theorem LookI.fin {σ : Type} {M : Mem σ} {base g : Nat} {w : World} {n0 : Nat} {cs : List Value} {S : W4} {st : σ} {W : World} (h : LookI M base g w n0 cs S st W) (hn : w.heap.size ≤ n0) (v0 v1 v2 v3 : Value) :
    WM M base g ((((W.setCell ⟨n0 + 1, 0, none⟩ v0).setCell ⟨n0 + 1, 1, none⟩ v1).setCell ⟨n0 + 1, 2, none⟩ v2).setCell ⟨n0 + 1, 3, none⟩ v3) S st ∧ MKg M g w ((((W.setCell ⟨n0 + 1, 0, none⟩ v0).setCell ⟨n0 + 1, 1, none⟩ v1).setCell ⟨n0 + 1, 2, none⟩ v2).setCell ⟨n0 + 1, 3, none⟩ v3) ∧
      OwnRow ((((W.setCell ⟨n0 + 1, 0, none⟩ v0).setCell ⟨n0 + 1, 1, none⟩ v1).setCell ⟨n0 + 1, 2, none⟩ v2).setCell ⟨n0 + 1, 3, none⟩ v3) (n0 + 1) 40 [v0, v1, v2, v3] := by
  obtain ⟨a1, a2, a3⟩ := WM.poke h.wm h.keep h.ans (by omega) 0 v0
  obtain ⟨b1, b2, b3⟩ := WM.poke a1 a2 a3 (by omega) 1 v1
  obtain ⟨c1, c2, c3⟩ := WM.poke b1 b2 b3 (by omega) 2 v2
  exact WM.poke c1 c2 c3 (by omega) 3 v3

set_option maxHeartbeats 3200000 in
theorem look_any {σ : Type} (M : Mem σ) (base g : Nat) (S : W4) (s : σ) (k : Nat) (hk : k < 4) (hlk : (S k).live = true) (o : O12) (hp : o.proc = k) (hw1 : bdI o.count) (hw2 : bdI o.size) (w : World) (h : WM M base g w S s) (hi : Inv S) :
    Calls Try.prog 37 #[.pointer (some ⟨g, 0, none⟩), opV o] w fun e w' => e = .returned (ansV (look14 (S k) o).2) ∧ WM M base g w' (upd S k (look14 (S k) o).1) (lookS M S s k o) ∧ MKg M g w w' := by
  have HT : Hid (∀ w1, Calls Try.prog 41 #[opV o] w1 fun e w' => e = .returned (ftV (if tchE o = 0 then o.addr else 0) (if tchE o = 0 then o.addr + tMany o * tEach o else 0) (tchE o)) ∧ Below w1.heap.size w1 w') := fun w1 => touched_any o hw1 hw2 w1
  have HL : Hid (look14 (S k) o = if tchE o = 0 then
    if (flt (S k) o 65 (tF o) (tT o)).1 = 0 then (lookP (S k) o, 0, lookV (S k) o, 0, 0)
    else (S k, 8, 0, (flt (S k) o 65 (tF o) (tT o)).1, (flt (S k) o 65 (tF o) (tT o)).2)
  else (S k, 2, 0, 0, 0)) := rfl
  have HLS : Hid (lookS M S s k o = if tchE o = 0 then if (flt (S k) o 65 (tF o) (tT o)).1 = 0 then if o.kind = 13 then marS M (fauS M S s k o) k o else if o.kind = 11 then stoS M (fauS M S s k o) k o else loaS M (fauS M S s k o) k o else fauS M S s k o else s) := rfl
  have hg := h.wok.glt
  have HSELF : Hid (upd S k (S k) = S) := upd_self S k
  obtain ⟨n0, hn0⟩ : ∃ n0, n0 = w.heap.size := ⟨_, rfl⟩
  have HBOX : Hid (∀ w1, Below ((w.alloc (.cells #[.int .i64 o.kind, .int .i64 o.proc, .int .i64 o.page, .int .i64 o.count, .int .i64 o.rights, .int .i64 o.key, .bool o.tagged, .int .i64 o.draw, .int .i64 o.addr, .int .i64 o.size, .int .i64 o.value, .int .i64 o.tag] 24)).alloc (.cells #[.int .i64 0, .int .i64 0, .int .i64 0, .int .i64 0] 40)).heap.size ((w.alloc (.cells #[.int .i64 o.kind, .int .i64 o.proc, .int .i64 o.page, .int .i64 o.count, .int .i64 o.rights, .int .i64 o.key, .bool o.tagged, .int .i64 o.draw, .int .i64 o.addr, .int .i64 o.size, .int .i64 o.value, .int .i64 o.tag] 24)).alloc (.cells #[.int .i64 0, .int .i64 0, .int .i64 0, .int .i64 0] 40)) w1 → LookI M base g w n0 [.int .i64 o.kind, .int .i64 o.proc, .int .i64 o.page, .int .i64 o.count, .int .i64 o.rights, .int .i64 o.key, .bool o.tagged, .int .i64 o.draw, .int .i64 o.addr, .int .i64 o.size, .int .i64 o.value, .int .i64 o.tag] S s w1) := fun w1 hb => by
    have h2 := own_two (w := w) (xs := [.int .i64 o.kind, .int .i64 o.proc, .int .i64 o.page, .int .i64 o.count, .int .i64 o.rights, .int .i64 o.key, .bool o.tagged, .int .i64 o.draw, .int .i64 o.addr, .int .i64 o.size, .int .i64 o.value, .int .i64 o.tag]) (ys := [.int .i64 0, .int .i64 0, .int .i64 0, .int .i64 0]) (e := 24) (e' := 40) hb
    have hb0 : Below w.heap.size w w1 := (((Below.refl _ _).alloc (Nat.le_refl _) _).alloc (by simp) _).trans (hb.mono (by simp; omega))
    rw [← hn0] at h2
    exact ⟨h.below hb0, MKg.of_below hb0, h2.1, h2.2⟩
  have HN : Hid (w.heap.size ≤ n0) := Nat.le_of_eq hn0.symm
  have hgn : g < n0 := by omega
  have HNE : Hid (n0 = w.heap.size) := hn0
  clear hn0
  by_cases hE : tchE o = 0
  case neg =>
    have hE2 := tchE_two hE
    have HL2 : Hid (look14 (S k) o = (S k, 2, 0, 0, 0)) := HL.out.trans (if_neg hE)
    have HS2 : Hid (lookS M S s k o = s) := HLS.out.trans (if_neg hE)
    rw [HL2.out, HS2.out]
    simp only
    rw [HSELF.out]
    have HT2 : Hid (∀ w1, Calls Try.prog 41 #[opV o] w1 fun e w' => e = .returned (ftV 0 0 2) ∧ Below w1.heap.size w1 w') := fun w1 => by
      have := HT.out w1
      rw [hE2] at this
      simp only [show ¬ ((2 : Int) = 0) by decide, if_false] at this
      exact this
    clear HL HLS HL2 HS2 hE hE2 HT h hi
    obtain ⟨kind, proc, page, count, rights, key, tagged, draw, addr, size, value, tag⟩ := o
    simp only at HBOX hp
    subst hp
    have hnn := HNE.out
    subst hnn
    go_enter Try.func37, Try.ntmps37
    go_wp2_with (go_at_call 41; refine (HT2.out _).mono ?_; rintro e w1 ⟨rfl, hb1⟩; have HA : Hid _ := HBOX.out _ hb1; obtain ⟨⟨b0, b1, b2, b3, b4, b5⟩, b6, b7, b8, b9, b10, b11⟩ := (LookI.op HA.out).twelve; obtain ⟨⟨x0, x1, x2, x3⟩, y0, y1, y2, y3⟩ := (LookI.ans HA.out).quadf; have hlt := (LookI.ans HA.out).lt)
    obtain ⟨f1, f2, f3⟩ := LookI.fin HA.out HN.out (.int .i64 2) (.int .i64 0) (.int .i64 0) (.int .i64 0)
    exact bodyPost_ret (v := ansV (2, 0, 0, 0)) (results_cell_row Try.results37 _ _ (w.heap.size + 1) 40 #[.int .i64 2, .int .i64 0, .int .i64 0, .int .i64 0] (0, 0) _ rfl f3 Try.underlying40 rfl info_ans) rfl ⟨rfl, f1, f2⟩
  obtain ⟨f, t, hf, ht, hF, hT, q1, q2, q3⟩ := touch_nat hE
  obtain ⟨⟨hy0, hy1⟩, -, -, -, hal⟩ := tchE_ok hE
  have HS1 : Hid (lookS M S s k o = if (flt (S k) o 65 f t).1 = 0 then if o.kind = 13 then marS M (fauS M S s k o) k o else if o.kind = 11 then stoS M (fauS M S s k o) k o else loaS M (fauS M S s k o) k o else fauS M S s k o) := by
    have := HLS.out.trans (if_pos hE)
    rw [hF, hT] at this
    exact this
  have HL2 : Hid (look14 (S k) o = if (flt (S k) o 65 f t).1 = 0 then (lookP (S k) o, 0, lookV (S k) o, 0, 0) else (S k, 8, 0, (flt (S k) o 65 f t).1, (flt (S k) o 65 f t).2)) := by
    have := HL.out.trans (if_pos hE)
    rw [hF, hT] at this
    exact this
  have HT2 : Hid (∀ w1, Calls Try.prog 41 #[opV o] w1 fun e w' => e = .returned (ftV f t 0) ∧ Below w1.heap.size w1 w') := fun w1 => by
    have := HT.out w1
    rw [hE, if_pos rfl, if_pos rfl, ht, hf] at this
    exact this
  have HFL : Hid (∀ w1, LookI M base g w n0 [.int .i64 o.kind, .int .i64 o.proc, .int .i64 o.page, .int .i64 o.count, .int .i64 o.rights, .int .i64 o.key, .bool o.tagged, .int .i64 o.draw, .int .i64 o.addr, .int .i64 o.size, .int .i64 o.value, .int .i64 o.tag] S s w1 → Calls Try.prog 42 #[.pointer (some ⟨g, 0, none⟩), opV o, .int .i64 f, .int .i64 t] w1 fun e w' => e = .returned (.tuple #[.int .i64 (flt (S k) o 65 f t).1, .int .i64 (flt (S k) o 65 f t).2]) ∧ LookI M base g w n0 [.int .i64 o.kind, .int .i64 o.proc, .int .i64 o.page, .int .i64 o.count, .int .i64 o.rights, .int .i64 o.key, .bool o.tagged, .int .i64 o.draw, .int .i64 o.addr, .int .i64 o.size, .int .i64 o.value, .int .i64 o.tag] S (fauS M S s k o) w') := fun w1 hl => by
    have := fault_any M base g S s k hk hlk o hp (by rw [hT]; exact q2) w1 hl.wm hi
    rw [hF, hT] at this
    exact this.mono fun e w' ⟨he, hm, hkk⟩ => ⟨he, hl.step hgn hm hkk⟩
  have HTH : Hid ((flt (S k) o 65 f t).1 = 0 → ∀ a, tF o ≤ a → a < tT o → (atR (S k).L ((a / 64 : Nat) : Int)).isSome = true) := fun hz a h1 h2 => by
    rw [hF] at h1
    rw [hT] at h2
    exact flt_there _ _ 65 f t hz (by omega) a h1 h2
  have HMK : Hid ((flt (S k) o 65 f t).1 = 0 → o.kind = 13 → ∀ w1 st, LookI M base g w n0 [.int .i64 o.kind, .int .i64 o.proc, .int .i64 o.page, .int .i64 o.count, .int .i64 o.rights, .int .i64 o.key, .bool o.tagged, .int .i64 o.draw, .int .i64 o.addr, .int .i64 o.size, .int .i64 o.value, .int .i64 o.tag] S st w1 → Calls Try.prog 43 #[.pointer (some ⟨g, 0, none⟩), opV o, .int .i64 f, .int .i64 t] w1 fun e w' => (∃ v, e = .returned v) ∧ LookI M base g w n0 [.int .i64 o.kind, .int .i64 o.proc, .int .i64 o.page, .int .i64 o.count, .int .i64 o.rights, .int .i64 o.key, .bool o.tagged, .int .i64 o.draw, .int .i64 o.addr, .int .i64 o.size, .int .i64 o.value, .int .i64 o.tag] (upd S k (markT (S k) o)) (marS M st k o) w') := fun hz hk13 w1 st hl => by
    have e16 : tEach o = 16 := by unfold tEach; rw [if_pos hk13]
    rw [e16] at hal ht
    have := mark_any M base g S st k hk hlk o hp hy0 hy1 (by rw [hF]; omega) (by rw [hT]; omega) (by rw [hF, hT]; exact q1) (by rw [hT]; exact q2) (HTH.out hz) w1 hl.wm hi
    rw [hF, hT] at this
    exact this.mono fun e w' ⟨he, hm, hkk⟩ => ⟨he, hl.step hgn hm hkk⟩
  have HST : Hid ((flt (S k) o 65 f t).1 = 0 → o.kind ≠ 13 → ∀ w1 st, LookI M base g w n0 [.int .i64 o.kind, .int .i64 o.proc, .int .i64 o.page, .int .i64 o.count, .int .i64 o.rights, .int .i64 o.key, .bool o.tagged, .int .i64 o.draw, .int .i64 o.addr, .int .i64 o.size, .int .i64 o.value, .int .i64 o.tag] S st w1 → Calls Try.prog 44 #[.pointer (some ⟨g, 0, none⟩), opV o, .int .i64 f, .int .i64 t] w1 fun e w' => (∃ v, e = .returned v) ∧ LookI M base g w n0 [.int .i64 o.kind, .int .i64 o.proc, .int .i64 o.page, .int .i64 o.count, .int .i64 o.rights, .int .i64 o.key, .bool o.tagged, .int .i64 o.draw, .int .i64 o.addr, .int .i64 o.size, .int .i64 o.value, .int .i64 o.tag] (upd S k (storB (S k) o)) (stoS M st k o) w') := fun hz hk13 w1 st hl => by
    have := store_any M base g S st k hk hlk o hp (by rw [hF, hT]; exact q1) (by have := q3 hk13; rw [hF, hT]; omega) (by rw [hT]; exact q2) (HTH.out hz) w1 hl.wm hi
    rw [hF, hT] at this
    exact this.mono fun e w' ⟨he, hm, hkk⟩ => ⟨he, hl.step hgn hm hkk⟩
  have HLD : Hid ((flt (S k) o 65 f t).1 = 0 → o.kind ≠ 13 → ∀ w1 st, LookI M base g w n0 [.int .i64 o.kind, .int .i64 o.proc, .int .i64 o.page, .int .i64 o.count, .int .i64 o.rights, .int .i64 o.key, .bool o.tagged, .int .i64 o.draw, .int .i64 o.addr, .int .i64 o.size, .int .i64 o.value, .int .i64 o.tag] S st w1 → Calls Try.prog 45 #[.pointer (some ⟨g, 0, none⟩), opV o, .int .i64 f, .int .i64 t] w1 fun e w' => e = .returned (.int .i64 (numB (S k) f (t - f))) ∧ LookI M base g w n0 [.int .i64 o.kind, .int .i64 o.proc, .int .i64 o.page, .int .i64 o.count, .int .i64 o.rights, .int .i64 o.key, .bool o.tagged, .int .i64 o.draw, .int .i64 o.addr, .int .i64 o.size, .int .i64 o.value, .int .i64 o.tag] S (loaS M st k o) w') := fun hz hk13 w1 st hl => by
    have := load_any M base g S st k hk hlk o hp (by rw [hF, hT]; exact q1) (by have := q3 hk13; rw [hF, hT]; omega) (by rw [hT]; exact q2) (HTH.out hz) w1 hl.wm hi
    rw [hF, hT] at this
    exact this.mono fun e w' ⟨he, hm, hkk⟩ => ⟨he, hl.step hgn hm hkk⟩
  have HLV : Hid (lookV (S k) o = if o.kind = 13 ∨ o.kind = 11 then 0 else numB (S k) f (t - f)) := by show _ = _; unfold lookV; rw [hF, hT]
  have HLP : Hid (lookP (S k) o = if o.kind = 13 then markT (S k) o else if o.kind = 11 then storB (S k) o else S k) := rfl
  clear HL HLS HT h hi hf ht hF hT q1 q2 q3 hE hw1 hw2 HTH hal hy0 hy1 hlk
  generalize flt (S k) o 65 f t = X at *
  generalize look14 (S k) o = LK at *
  generalize lookV (S k) o = LV at *
  generalize lookP (S k) o = LP at *
  generalize numB (S k) f (t - f) = N at *
  generalize lookS M S s k o = LS at *
  generalize fauS M S s k o = FS at *
  obtain ⟨mS, hmS⟩ : ∃ mS, mS = fun st => marS M st k o := ⟨_, rfl⟩
  obtain ⟨sS, hsS⟩ : ∃ sS, sS = fun st => stoS M st k o := ⟨_, rfl⟩
  obtain ⟨lS, hlS⟩ : ∃ lS, lS = fun st => loaS M st k o := ⟨_, rfl⟩
  have HS3 : Hid (LS = if X.1 = 0 then if o.kind = 13 then mS FS else if o.kind = 11 then sS FS else lS FS else FS) := by rw [hmS, hsS, hlS]; exact HS1.out
  obtain ⟨MT, hM⟩ : ∃ MT, MT = markT (S k) o := ⟨_, rfl⟩
  obtain ⟨B, hB⟩ : ∃ B, B = storB (S k) o := ⟨_, rfl⟩
  have HMK2 : Hid (X.1 = 0 → o.kind = 13 → ∀ w1, LookI M base g w n0 [.int .i64 o.kind, .int .i64 o.proc, .int .i64 o.page, .int .i64 o.count, .int .i64 o.rights, .int .i64 o.key, .bool o.tagged, .int .i64 o.draw, .int .i64 o.addr, .int .i64 o.size, .int .i64 o.value, .int .i64 o.tag] S FS w1 → Calls Try.prog 43 #[.pointer (some ⟨g, 0, none⟩), opV o, .int .i64 f, .int .i64 t] w1 fun e w' => (∃ v, e = .returned v) ∧ LookI M base g w n0 [.int .i64 o.kind, .int .i64 o.proc, .int .i64 o.page, .int .i64 o.count, .int .i64 o.rights, .int .i64 o.key, .bool o.tagged, .int .i64 o.draw, .int .i64 o.addr, .int .i64 o.size, .int .i64 o.value, .int .i64 o.tag] (upd S k MT) (mS FS) w') := by rw [hmS, hM]; exact fun hz h13 w1 => HMK.out hz h13 w1 _
  have HST2 : Hid (X.1 = 0 → o.kind ≠ 13 → ∀ w1, LookI M base g w n0 [.int .i64 o.kind, .int .i64 o.proc, .int .i64 o.page, .int .i64 o.count, .int .i64 o.rights, .int .i64 o.key, .bool o.tagged, .int .i64 o.draw, .int .i64 o.addr, .int .i64 o.size, .int .i64 o.value, .int .i64 o.tag] S FS w1 → Calls Try.prog 44 #[.pointer (some ⟨g, 0, none⟩), opV o, .int .i64 f, .int .i64 t] w1 fun e w' => (∃ v, e = .returned v) ∧ LookI M base g w n0 [.int .i64 o.kind, .int .i64 o.proc, .int .i64 o.page, .int .i64 o.count, .int .i64 o.rights, .int .i64 o.key, .bool o.tagged, .int .i64 o.draw, .int .i64 o.addr, .int .i64 o.size, .int .i64 o.value, .int .i64 o.tag] (upd S k B) (sS FS) w') := by rw [hsS, hB]; exact fun hz h13 w1 => HST.out hz h13 w1 _
  have HLD2 : Hid (X.1 = 0 → o.kind ≠ 13 → ∀ w1, LookI M base g w n0 [.int .i64 o.kind, .int .i64 o.proc, .int .i64 o.page, .int .i64 o.count, .int .i64 o.rights, .int .i64 o.key, .bool o.tagged, .int .i64 o.draw, .int .i64 o.addr, .int .i64 o.size, .int .i64 o.value, .int .i64 o.tag] S FS w1 → Calls Try.prog 45 #[.pointer (some ⟨g, 0, none⟩), opV o, .int .i64 f, .int .i64 t] w1 fun e w' => e = .returned (.int .i64 N) ∧ LookI M base g w n0 [.int .i64 o.kind, .int .i64 o.proc, .int .i64 o.page, .int .i64 o.count, .int .i64 o.rights, .int .i64 o.key, .bool o.tagged, .int .i64 o.draw, .int .i64 o.addr, .int .i64 o.size, .int .i64 o.value, .int .i64 o.tag] S (lS FS) w') := by rw [hlS]; exact fun hz h13 w1 => HLD.out hz h13 w1 _
  rw [← hM, ← hB] at HLP
  clear hM hB HMK HST HLD HS1 hmS hsS hlS
  obtain ⟨X1, X2⟩ := X
  simp only at HL2 HFL HS3 HMK2 HST2 HLD2
  obtain ⟨kind, proc, page, count, rights, key, tagged, draw, addr, size, value, tag⟩ := o
  simp only at HBOX HMK2 HST2 HLD2 HLV HLP HS3 HFL hp
  subst hp
  by_cases hX : X1 = 0
  case neg =>
    obtain rfl : LK = (S k, 8, 0, X1, X2) := HL2.out.trans (if_neg hX)
    obtain rfl : LS = FS := HS3.out.trans (if_neg hX)
    have hd : (X1 != 0) = true := by simpa using hX
    simp only
    rw [HSELF.out]
    clear HL2 HMK2 HST2 HLD2 HLV HLP HS3
    have hnn := HNE.out
    subst hnn
    go_enter Try.func37, Try.ntmps37
    go_wp2_with (first | (go_at_call 41; refine (HT2.out _).mono ?_; rintro e w1 ⟨rfl, hb1⟩; have HA : Hid _ := HBOX.out _ hb1; obtain ⟨⟨b0, b1, b2, b3, b4, b5⟩, b6, b7, b8, b9, b10, b11⟩ := (LookI.op HA.out).twelve; obtain ⟨⟨x0, x1, x2, x3⟩, y0, y1, y2, y3⟩ := (LookI.ans HA.out).quadf; have hlt := (LookI.ans HA.out).lt) | (go_at_call 42; refine (HFL.out _ HA.out).mono ?_; rintro e w2 ⟨rfl, hb2⟩; clear b0 b1 b2 b3 b4 b5 b6 b7 b8 b9 b10 b11 x0 x1 x2 x3 y0 y1 y2 y3 hlt; have HB : Hid _ := hb2; clear hb2; obtain ⟨⟨b0, b1, b2, b3, b4, b5⟩, b6, b7, b8, b9, b10, b11⟩ := (LookI.op HB.out).twelve; obtain ⟨⟨x0, x1, x2, x3⟩, y0, y1, y2, y3⟩ := (LookI.ans HB.out).quadf; have hlt := (LookI.ans HB.out).lt))
    obtain ⟨f1, f2, f3⟩ := LookI.fin HB.out HN.out (.int .i64 8) (.int .i64 0) (.int .i64 X1) (.int .i64 X2)
    exact bodyPost_ret (v := ansV (8, 0, X1, X2)) (results_cell_row Try.results37 _ _ (w.heap.size + 1) 40 #[.int .i64 8, .int .i64 0, .int .i64 X1, .int .i64 X2] (0, 0) _ rfl f3 Try.underlying40 rfl info_ans) rfl ⟨rfl, f1, f2⟩
  subst hX
  obtain rfl : LK = (LP, 0, LV, 0, 0) := HL2.out.trans (if_pos rfl)
  have HS4 : Hid (LS = if kind = 13 then mS FS else if kind = 11 then sS FS else lS FS) := HS3.out.trans (if_pos rfl)
  simp only
  clear HL2 HS3
  by_cases k13 : kind = 13
  · subst k13
    obtain rfl : LP = MT := HLP.out.trans (if_pos rfl)
    obtain rfl : LV = 0 := HLV.out.trans (if_pos (Or.inl rfl))
    obtain rfl : LS = mS FS := HS4.out.trans (if_pos rfl)
    have HMK3 : Hid _ := HMK2.out rfl rfl
    clear HLP HLV HST2 HLD2 HS4 HMK2
    have hnn := HNE.out
    subst hnn
    go_enter Try.func37, Try.ntmps37
    go_wp2_with (first | (go_at_call 41; refine (HT2.out _).mono ?_; rintro e w1 ⟨rfl, hb1⟩; have HA : Hid _ := HBOX.out _ hb1; obtain ⟨⟨b0, b1, b2, b3, b4, b5⟩, b6, b7, b8, b9, b10, b11⟩ := (LookI.op HA.out).twelve; obtain ⟨⟨x0, x1, x2, x3⟩, y0, y1, y2, y3⟩ := (LookI.ans HA.out).quadf; have hlt := (LookI.ans HA.out).lt) | (go_at_call 42; refine (HFL.out _ HA.out).mono ?_; rintro e w2 ⟨rfl, hb2⟩; clear b0 b1 b2 b3 b4 b5 b6 b7 b8 b9 b10 b11 x0 x1 x2 x3 y0 y1 y2 y3 hlt; have HB : Hid _ := hb2; clear hb2; obtain ⟨⟨b0, b1, b2, b3, b4, b5⟩, b6, b7, b8, b9, b10, b11⟩ := (LookI.op HB.out).twelve; obtain ⟨⟨x0, x1, x2, x3⟩, y0, y1, y2, y3⟩ := (LookI.ans HB.out).quadf; have hlt := (LookI.ans HB.out).lt) | (go_at_call 43; refine (HMK3.out _ HB.out).mono ?_; rintro e w3 ⟨⟨v, rfl⟩, hb3⟩; clear b0 b1 b2 b3 b4 b5 b6 b7 b8 b9 b10 b11 x0 x1 x2 x3 y0 y1 y2 y3 hlt; have HC : Hid _ := hb3; clear hb3; obtain ⟨⟨b0, b1, b2, b3, b4, b5⟩, b6, b7, b8, b9, b10, b11⟩ := (LookI.op HC.out).twelve; obtain ⟨⟨x0, x1, x2, x3⟩, y0, y1, y2, y3⟩ := (LookI.ans HC.out).quadf; have hlt := (LookI.ans HC.out).lt))
    obtain ⟨f1, f2, f3⟩ := LookI.fin HC.out HN.out (.int .i64 0) (.int .i64 0) (.int .i64 0) (.int .i64 0)
    exact bodyPost_ret (v := ansV (0, 0, 0, 0)) (results_cell_row Try.results37 _ _ (w.heap.size + 1) 40 #[.int .i64 0, .int .i64 0, .int .i64 0, .int .i64 0] (0, 0) _ rfl f3 Try.underlying40 rfl info_ans) rfl ⟨rfl, f1, f2⟩
  have d13 : (kind == 13) = false := by simpa using k13
  by_cases k11 : kind = 11
  · subst k11
    obtain rfl : LP = B := HLP.out.trans ((if_neg k13).trans (if_pos rfl))
    obtain rfl : LV = 0 := HLV.out.trans (if_pos (Or.inr rfl))
    obtain rfl : LS = sS FS := HS4.out.trans ((if_neg k13).trans (if_pos rfl))
    have HST3 : Hid _ := HST2.out rfl k13
    clear HLP HLV HMK2 HLD2 k13 HS4 HST2
    have hnn := HNE.out
    subst hnn
    go_enter Try.func37, Try.ntmps37
    go_wp2_with (first | (go_at_call 41; refine (HT2.out _).mono ?_; rintro e w1 ⟨rfl, hb1⟩; have HA : Hid _ := HBOX.out _ hb1; obtain ⟨⟨b0, b1, b2, b3, b4, b5⟩, b6, b7, b8, b9, b10, b11⟩ := (LookI.op HA.out).twelve; obtain ⟨⟨x0, x1, x2, x3⟩, y0, y1, y2, y3⟩ := (LookI.ans HA.out).quadf; have hlt := (LookI.ans HA.out).lt) | (go_at_call 42; refine (HFL.out _ HA.out).mono ?_; rintro e w2 ⟨rfl, hb2⟩; clear b0 b1 b2 b3 b4 b5 b6 b7 b8 b9 b10 b11 x0 x1 x2 x3 y0 y1 y2 y3 hlt; have HB : Hid _ := hb2; clear hb2; obtain ⟨⟨b0, b1, b2, b3, b4, b5⟩, b6, b7, b8, b9, b10, b11⟩ := (LookI.op HB.out).twelve; obtain ⟨⟨x0, x1, x2, x3⟩, y0, y1, y2, y3⟩ := (LookI.ans HB.out).quadf; have hlt := (LookI.ans HB.out).lt) | (go_at_call 44; refine (HST3.out _ HB.out).mono ?_; rintro e w3 ⟨⟨v, rfl⟩, hb3⟩; clear b0 b1 b2 b3 b4 b5 b6 b7 b8 b9 b10 b11 x0 x1 x2 x3 y0 y1 y2 y3 hlt; have HC : Hid _ := hb3; clear hb3; obtain ⟨⟨b0, b1, b2, b3, b4, b5⟩, b6, b7, b8, b9, b10, b11⟩ := (LookI.op HC.out).twelve; obtain ⟨⟨x0, x1, x2, x3⟩, y0, y1, y2, y3⟩ := (LookI.ans HC.out).quadf; have hlt := (LookI.ans HC.out).lt))
    obtain ⟨f1, f2, f3⟩ := LookI.fin HC.out HN.out (.int .i64 0) (.int .i64 0) (.int .i64 0) (.int .i64 0)
    exact bodyPost_ret (v := ansV (0, 0, 0, 0)) (results_cell_row Try.results37 _ _ (w.heap.size + 1) 40 #[.int .i64 0, .int .i64 0, .int .i64 0, .int .i64 0] (0, 0) _ rfl f3 Try.underlying40 rfl info_ans) rfl ⟨rfl, f1, f2⟩
  have d11 : (kind == 11) = false := by simpa using k11
  obtain rfl : LP = S k := HLP.out.trans ((if_neg k13).trans (if_neg k11))
  obtain rfl : LV = N := HLV.out.trans (if_neg (fun h => h.elim k13 k11))
  obtain rfl : LS = lS FS := HS4.out.trans ((if_neg k13).trans (if_neg k11))
  have HLD3 : Hid _ := HLD2.out rfl k13
  rw [HSELF.out]
  clear HLP HLV HMK2 HST2 k11 HS4 HLD2
  have hnn := HNE.out
  subst hnn
  go_enter Try.func37, Try.ntmps37
  go_wp2_with (first | (go_at_call 41; refine (HT2.out _).mono ?_; rintro e w1 ⟨rfl, hb1⟩; have HA : Hid _ := HBOX.out _ hb1; obtain ⟨⟨b0, b1, b2, b3, b4, b5⟩, b6, b7, b8, b9, b10, b11⟩ := (LookI.op HA.out).twelve; obtain ⟨⟨x0, x1, x2, x3⟩, y0, y1, y2, y3⟩ := (LookI.ans HA.out).quadf; have hlt := (LookI.ans HA.out).lt) | (go_at_call 42; refine (HFL.out _ HA.out).mono ?_; rintro e w2 ⟨rfl, hb2⟩; clear b0 b1 b2 b3 b4 b5 b6 b7 b8 b9 b10 b11 x0 x1 x2 x3 y0 y1 y2 y3 hlt; have HB : Hid _ := hb2; clear hb2; obtain ⟨⟨b0, b1, b2, b3, b4, b5⟩, b6, b7, b8, b9, b10, b11⟩ := (LookI.op HB.out).twelve; obtain ⟨⟨x0, x1, x2, x3⟩, y0, y1, y2, y3⟩ := (LookI.ans HB.out).quadf; have hlt := (LookI.ans HB.out).lt) | (go_at_call 45; refine (HLD3.out _ HB.out).mono ?_; rintro e w3 ⟨rfl, hb3⟩; clear b0 b1 b2 b3 b4 b5 b6 b7 b8 b9 b10 b11 x0 x1 x2 x3 y0 y1 y2 y3 hlt; have HC : Hid _ := hb3; clear hb3; obtain ⟨⟨b0, b1, b2, b3, b4, b5⟩, b6, b7, b8, b9, b10, b11⟩ := (LookI.op HC.out).twelve; obtain ⟨⟨x0, x1, x2, x3⟩, y0, y1, y2, y3⟩ := (LookI.ans HC.out).quadf; have hlt := (LookI.ans HC.out).lt))
  obtain ⟨f1, f2, f3⟩ := LookI.fin HC.out HN.out (.int .i64 0) (.int .i64 LV) (.int .i64 0) (.int .i64 0)
  exact bodyPost_ret (v := ansV (0, LV, 0, 0)) (results_cell_row Try.results37 _ _ (w.heap.size + 1) 40 #[.int .i64 0, .int .i64 LV, .int .i64 0, .int .i64 0] (0, 0) _ rfl f3 Try.underlying40 rfl info_ans) rfl ⟨rfl, f1, f2⟩

end Go.Proofs.Ytbiipnojhjhejaa

/- The contracts of keys.First, keys.isTaken, keys.Set and keys.Free over the loaded program: what each call returns, and that nothing that was there is written. -/
import Derived.Test.YtbiipnojhjhejaaRows
import Derived.Test.YtbiipnojhjhejaaKit
import Derived.WalkKit
import Derived.WalkLawsBesides
import Derived.WalkSpells
import Derived.Below
import Derived.OpenShut
import Derived.Laws.Rows
import Derived.Laws.Tables
import Derived.Test.YtbiipnojhjhejaaCalm
import Derived.Test.YtbiipnojhjhejaaJCheck
import Derived.Test.YtbiipnojhjhejaaJMath
import Derived.Laws.CopyOwn
import Derived.Laws.BytesArg
namespace Go.Proofs.Ytbiipnojhjhejaa
set_option maxRecDepth 100000
open Go.RowKit
set_option linter.unusedSimpArgs false
set_option linter.unusedVariables false

/-- Four keys as one value. -/
abbrev kv (l : K8) : Value := keysV l.1 l.2.1 l.2.2.1 l.2.2.2.1 l.2.2.2.2.1 l.2.2.2.2.2.1 l.2.2.2.2.2.2.1 l.2.2.2.2.2.2.2

/-- The eight cells of a row. -/
theorem OwnRow.eight {w : World} {g : Nat} {e : TypeId} {a b c d a' b' c' d' : Value} (h : OwnRow w g e [a, b, c, d, a', b', c', d']) :
    (w.cell? ⟨g, 0, none⟩ = some a ∧ w.cell? ⟨g, 1, none⟩ = some b ∧ w.cell? ⟨g, 2, none⟩ = some c ∧ w.cell? ⟨g, 3, none⟩ = some d) ∧
    (w.cell? ⟨g, 4, none⟩ = some a' ∧ w.cell? ⟨g, 5, none⟩ = some b' ∧ w.cell? ⟨g, 6, none⟩ = some c' ∧ w.cell? ⟨g, 7, none⟩ = some d') :=
  ⟨⟨by rw [h.cell]; rfl, by rw [h.cell]; rfl, by rw [h.cell]; rfl, by rw [h.cell]; rfl⟩, ⟨by rw [h.cell]; rfl, by rw [h.cell]; rfl, by rw [h.cell]; rfl, by rw [h.cell]; rfl⟩⟩

/-- A whole row of eight cells is written. -/
theorem row8_set {w : World} {g : Nat} {e : TypeId} {x0 x1 x2 x3 x4 x5 x6 x7 : Value} (ho : OwnRow w g e [x0, x1, x2, x3, x4, x5, x6, x7]) (y0 y1 y2 y3 y4 y5 y6 y7 : Value) :
    OwnRow ((((((((w.setCell ⟨g, 0, none⟩ y0).setCell ⟨g, 1, none⟩ y1).setCell ⟨g, 2, none⟩ y2).setCell ⟨g, 3, none⟩ y3).setCell ⟨g, 4, none⟩ y4).setCell ⟨g, 5, none⟩ y5).setCell ⟨g, 6, none⟩ y6).setCell ⟨g, 7, none⟩ y7) g e [y0, y1, y2, y3, y4, y5, y6, y7] :=
  (((((((ho.set 0 y0).set 1 y1).set 2 y2).set 3 y3).set 4 y4).set 5 y5).set 6 y6).set 7 y7

theorem below8_set {B g : Nat} {v w : World} (hb : Below B v w) (hg : B ≤ g) (y0 y1 y2 y3 y4 y5 y6 y7 : Value) : Below B v ((((((((w.setCell ⟨g, 0, none⟩ y0).setCell ⟨g, 1, none⟩ y1).setCell ⟨g, 2, none⟩ y2).setCell ⟨g, 3, none⟩ y3).setCell ⟨g, 4, none⟩ y4).setCell ⟨g, 5, none⟩ y5).setCell ⟨g, 6, none⟩ y6).setCell ⟨g, 7, none⟩ y7) :=
  Below.setCell (Below.setCell (Below.setCell (Below.setCell (Below.setCell (Below.setCell (Below.setCell (Below.setCell hb hg y0) hg y1) hg y2) hg y3) hg y4) hg y5) hg y6) hg y7

theorem OwnRow.beside {w : World} {g b i : Nat} {e : TypeId} {xs : List Value} (h : OwnRow w g e xs) (hne : g ≠ b) (v : Value) : OwnRow (w.setCell ⟨b, i, none⟩ v) g e xs := by
  unfold OwnRow at *
  simp only [World.setCell, Array.getElem?_modify]
  rw [if_neg (fun h => hne h.symm)]
  exact h

theorem info_keys : (Try.prog.info? 30).map (·.size) = some 8 := by kernel_rfl

theorem load8 {W : World} {g : Nat} {e : TypeId} {y0 y1 y2 y3 y4 y5 y6 y7 : Value} (h : OwnRow W g e [y0, y1, y2, y3, y4, y5, y6, y7]) : (loadVar 30 ⟨g, 0, none⟩).run Try.prog W = .ok (.agg #[y0, y1, y2, y3, y4, y5, y6, y7]) W :=
  run_loadVar_row W g e _ #[y0, y1, y2, y3, y4, y5, y6, y7] (0, 0) _ h Try.underlying30 rfl info_keys

/-- A variable's value and another one, or two, as they are returned. -/
theorem results_cell_tmp {P : Program} {fn : Func} {p q : Tmp} {ty : TypeId} (h : fn.results = #[.cell p ty, .tmp q]) (tmps : Array Value) (w : World) (A : Addr) (X Y : Value)
    (hp : tmps.getD p undef = .pointer (some A)) (hq : tmps.getD q undef = Y) (hl : (loadVar ty A).run P w = .ok X w) : (results fn tmps).run P w = .ok (.tuple #[X, Y]) w := by
  have hp' : tmps[p]?.getD undef = .pointer (some A) := by simpa using hp
  have hq' : tmps[q]?.getD undef = Y := by simpa using hq
  simp [results, h, hp', hq', asAddr, hl]

theorem results_cell_tmps {P : Program} {fn : Func} {p q r : Tmp} {ty : TypeId} (h : fn.results = #[.cell p ty, .tmp q, .tmp r]) (tmps : Array Value) (w : World) (A : Addr) (X Y Z : Value)
    (hp : tmps.getD p undef = .pointer (some A)) (hq : tmps.getD q undef = Y) (hr : tmps.getD r undef = Z) (hl : (loadVar ty A).run P w = .ok X w) : (results fn tmps).run P w = .ok (.tuple #[X, Y, Z]) w := by
  have hp' : tmps[p]?.getD undef = .pointer (some A) := by simpa using hp
  have hq' : tmps[q]?.getD undef = Y := by simpa using hq
  have hr' : tmps[r]?.getD undef = Z := by simpa using hr
  simp [results, h, hp', hq', hr', asAddr, hl]

set_option maxHeartbeats 400000 in
theorem first_any (w : World) :
    Calls Try.prog 31 #[] w fun e w' => e = .returned (keysV true 0 false 0 false 0 false 0) ∧ Below w.heap.size w w' := by
  go_enter Try.func31, Try.ntmps31
  go_wp2
  exact bodyPost_ret (v := keysV true 0 false 0 false 0 false 0) (by simp [results, Try.results31, go_sem]) rfl ⟨rfl, (Below.refl _ _).alloc (Nat.le_refl _) _⟩

set_option maxHeartbeats 800000 in
theorem isTaken_any (l : K8) (k : Int) (w : World) :
    Calls Try.prog 84 #[kv l, .int .i64 k] w fun e w' => e = .returned (.bool (tk l k)) ∧ Below w.heap.size w w' := by
  obtain ⟨t0, d0, t1, d1, t2, d2, t3, d3⟩ := l
  have hbe : Hid (∀ o, Below w.heap.size w (w.alloc o)) := fun o => (Below.refl _ _).alloc (Nat.le_refl _) _
  by_cases h0 : k < 0
  · have hw : tk (t0, d0, t1, d1, t2, d2, t3, d3) k = false := tk_out (Or.inl h0)
    rw [hw]
    clear hw
    go_enter Try.func84, Try.ntmps84
    go_wp2
    go_ret
    exact ⟨rfl, hbe.out _⟩
  by_cases h3 : 3 < k
  · have hw : tk (t0, d0, t1, d1, t2, d2, t3, d3) k = false := tk_out (Or.inr h3)
    rw [hw]
    clear hw
    go_enter Try.func84, Try.ntmps84
    go_wp2
    go_ret
    exact ⟨rfl, hbe.out _⟩
  have hk : k = 0 ∨ k = 1 ∨ k = 2 ∨ k = 3 := by omega
  clear h0 h3
  rcases hk with rfl | rfl | rfl | rfl
  all_goals
    go_enter Try.func84, Try.ntmps84
    go_wp2
    go_ret
    exact ⟨rfl, hbe.out _⟩

/-- Keys and an error, as they are returned. -/
abbrev keV (l : K8) (e : Int) : Value := .tuple #[kv l, .int .i64 e]

set_option maxHeartbeats 1600000 in
theorem set_any (l : K8) (k d : Int) (w : World) :
    Calls Try.prog 71 #[kv l, .int .i64 k, .int .i64 d] w fun e w' => e = .returned (keV (stL l k d) (stE l k d)) ∧ Below w.heap.size w w' := by
  have HT : Hid (∀ w1, Calls Try.prog 84 #[kv l, .int .i64 k] w1 fun e w' => e = .returned (.bool (tk l k)) ∧ Below w1.heap.size w1 w') := fun w1 => isTaken_any l k w1
  cases ht : tk l k
  · have h1 : stE l k d = 3 := by simp [stE, ht]
    rw [stL_no (by rw [h1]; decide), h1]
    clear h1
    rw [ht] at HT
    clear ht
    obtain ⟨t0, d0, t1, d1, t2, d2, t3, d3⟩ := l
    go_enter Try.func71, Try.ntmps71
    go_wp2_with fail
    refine (HT.out _).mono ?_
    rintro e w1 ⟨rfl, hb1⟩
    obtain ⟨ho1, ho2⟩ := own_two (xs := [_, _, _, _, _, _, _, _]) (ys := [_, _, _, _, _, _, _, _]) hb1
    have hbw : Below w.heap.size w w1 := (((Below.refl _ _).alloc (Nat.le_refl _) _).alloc (by simp) _).trans (hb1.mono (by simp; omega))
    have hz : w.heap.size + 1 < w1.heap.size := ho2.lt
    clear hb1
    obtain ⟨⟨a0, a1, a2, a3⟩, ⟨a4, a5, a6, a7⟩⟩ := ho1.eight
    obtain ⟨⟨b0, b1, b2, b3⟩, ⟨b4, b5, b6, b7⟩⟩ := ho2.eight
    have f0 := ho1.free
    have f1 := ho2.free
    have HO : Hid _ := ho2
    clear ho1 ho2
    go_wp2
    exact bodyPost_ret (v := keV (no8) 3) (results_cell_tmp Try.results71 _ _ _ _ _ rfl rfl (load8 (row8_set (HO.out) _ _ _ _ _ _ _ _))) rfl ⟨rfl, below8_set (hbw) (by simp) _ _ _ _ _ _ _ _⟩
  by_cases hd : d < 0 ∨ 3 < d
  · have h1 : stE l k d = 2 := by simp [stE, ht, hd]
    rw [stL_no (by rw [h1]; decide), h1]
    clear h1
    rw [ht] at HT
    clear ht
    obtain ⟨t0, d0, t1, d1, t2, d2, t3, d3⟩ := l
    rcases hd with hd | hd
    · go_enter Try.func71, Try.ntmps71
      go_wp2_with fail
      refine (HT.out _).mono ?_
      rintro e w1 ⟨rfl, hb1⟩
      obtain ⟨ho1, ho2⟩ := own_two (xs := [_, _, _, _, _, _, _, _]) (ys := [_, _, _, _, _, _, _, _]) hb1
      have hbw : Below w.heap.size w w1 := (((Below.refl _ _).alloc (Nat.le_refl _) _).alloc (by simp) _).trans (hb1.mono (by simp; omega))
      have hz : w.heap.size + 1 < w1.heap.size := ho2.lt
      clear hb1
      obtain ⟨⟨a0, a1, a2, a3⟩, ⟨a4, a5, a6, a7⟩⟩ := ho1.eight
      obtain ⟨⟨b0, b1, b2, b3⟩, ⟨b4, b5, b6, b7⟩⟩ := ho2.eight
      have f0 := ho1.free
      have f1 := ho2.free
      have HO : Hid _ := ho2
      clear ho1 ho2
      go_wp2
      exact bodyPost_ret (v := keV (no8) 2) (results_cell_tmp Try.results71 _ _ _ _ _ rfl rfl (load8 (row8_set (HO.out) _ _ _ _ _ _ _ _))) rfl ⟨rfl, below8_set (hbw) (by simp) _ _ _ _ _ _ _ _⟩
    · go_enter Try.func71, Try.ntmps71
      go_wp2_with fail
      refine (HT.out _).mono ?_
      rintro e w1 ⟨rfl, hb1⟩
      obtain ⟨ho1, ho2⟩ := own_two (xs := [_, _, _, _, _, _, _, _]) (ys := [_, _, _, _, _, _, _, _]) hb1
      have hbw : Below w.heap.size w w1 := (((Below.refl _ _).alloc (Nat.le_refl _) _).alloc (by simp) _).trans (hb1.mono (by simp; omega))
      have hz : w.heap.size + 1 < w1.heap.size := ho2.lt
      clear hb1
      obtain ⟨⟨a0, a1, a2, a3⟩, ⟨a4, a5, a6, a7⟩⟩ := ho1.eight
      obtain ⟨⟨b0, b1, b2, b3⟩, ⟨b4, b5, b6, b7⟩⟩ := ho2.eight
      have f0 := ho1.free
      have f1 := ho2.free
      have HO : Hid _ := ho2
      clear ho1 ho2
      go_wp2
      exact bodyPost_ret (v := keV (no8) 2) (results_cell_tmp Try.results71 _ _ _ _ _ rfl rfl (load8 (row8_set (HO.out) _ _ _ _ _ _ _ _))) rfl ⟨rfl, below8_set (hbw) (by simp) _ _ _ _ _ _ _ _⟩
  · have h1 : stE l k d = 0 := stE_zero.2 ⟨ht, hd⟩
    rw [stL_ok h1, h1]
    clear h1
    rw [ht] at HT
    obtain ⟨hd0, hd3⟩ : 0 ≤ d ∧ d ≤ 3 := by omega
    clear hd
    have hk := tk_key ht
    obtain ⟨t0, d0, t1, d1, t2, d2, t3, d3⟩ := l
    rcases hk with rfl | rfl | rfl | rfl
    · obtain rfl : t0 = true := by simpa [tk] using ht
      clear ht
      rw [put_0]
      go_enter Try.func71, Try.ntmps71
      go_wp2_with fail
      refine (HT.out _).mono ?_
      rintro e w1 ⟨rfl, hb1⟩
      obtain ⟨ho1, ho2⟩ := own_two (xs := [_, _, _, _, _, _, _, _]) (ys := [_, _, _, _, _, _, _, _]) hb1
      have hbw : Below w.heap.size w w1 := (((Below.refl _ _).alloc (Nat.le_refl _) _).alloc (by simp) _).trans (hb1.mono (by simp; omega))
      have hz : w.heap.size + 1 < w1.heap.size := ho2.lt
      clear hb1
      obtain ⟨⟨a0, a1, a2, a3⟩, ⟨a4, a5, a6, a7⟩⟩ := ho1.eight
      obtain ⟨⟨b0, b1, b2, b3⟩, ⟨b4, b5, b6, b7⟩⟩ := ho2.eight
      have f0 := ho1.free
      have f1 := ho2.free
      have HO : Hid _ := ho2
      clear ho1 ho2
      go_wp2
      exact bodyPost_ret (v := keV (true, d, t1, d1, t2, d2, t3, d3) 0) (results_cell_tmp Try.results71 _ _ _ _ _ rfl rfl (load8 (row8_set (OwnRow.beside HO.out (by omega) _) _ _ _ _ _ _ _ _))) rfl ⟨rfl, below8_set (hbw.setCell (by simp) _) (by simp) _ _ _ _ _ _ _ _⟩
    · obtain rfl : t1 = true := by simpa [tk] using ht
      clear ht
      rw [put_1]
      go_enter Try.func71, Try.ntmps71
      go_wp2_with fail
      refine (HT.out _).mono ?_
      rintro e w1 ⟨rfl, hb1⟩
      obtain ⟨ho1, ho2⟩ := own_two (xs := [_, _, _, _, _, _, _, _]) (ys := [_, _, _, _, _, _, _, _]) hb1
      have hbw : Below w.heap.size w w1 := (((Below.refl _ _).alloc (Nat.le_refl _) _).alloc (by simp) _).trans (hb1.mono (by simp; omega))
      have hz : w.heap.size + 1 < w1.heap.size := ho2.lt
      clear hb1
      obtain ⟨⟨a0, a1, a2, a3⟩, ⟨a4, a5, a6, a7⟩⟩ := ho1.eight
      obtain ⟨⟨b0, b1, b2, b3⟩, ⟨b4, b5, b6, b7⟩⟩ := ho2.eight
      have f0 := ho1.free
      have f1 := ho2.free
      have HO : Hid _ := ho2
      clear ho1 ho2
      go_wp2
      exact bodyPost_ret (v := keV (t0, d0, true, d, t2, d2, t3, d3) 0) (results_cell_tmp Try.results71 _ _ _ _ _ rfl rfl (load8 (row8_set (OwnRow.beside HO.out (by omega) _) _ _ _ _ _ _ _ _))) rfl ⟨rfl, below8_set (hbw.setCell (by simp) _) (by simp) _ _ _ _ _ _ _ _⟩
    · obtain rfl : t2 = true := by simpa [tk] using ht
      clear ht
      rw [put_2]
      go_enter Try.func71, Try.ntmps71
      go_wp2_with fail
      refine (HT.out _).mono ?_
      rintro e w1 ⟨rfl, hb1⟩
      obtain ⟨ho1, ho2⟩ := own_two (xs := [_, _, _, _, _, _, _, _]) (ys := [_, _, _, _, _, _, _, _]) hb1
      have hbw : Below w.heap.size w w1 := (((Below.refl _ _).alloc (Nat.le_refl _) _).alloc (by simp) _).trans (hb1.mono (by simp; omega))
      have hz : w.heap.size + 1 < w1.heap.size := ho2.lt
      clear hb1
      obtain ⟨⟨a0, a1, a2, a3⟩, ⟨a4, a5, a6, a7⟩⟩ := ho1.eight
      obtain ⟨⟨b0, b1, b2, b3⟩, ⟨b4, b5, b6, b7⟩⟩ := ho2.eight
      have f0 := ho1.free
      have f1 := ho2.free
      have HO : Hid _ := ho2
      clear ho1 ho2
      go_wp2
      exact bodyPost_ret (v := keV (t0, d0, t1, d1, true, d, t3, d3) 0) (results_cell_tmp Try.results71 _ _ _ _ _ rfl rfl (load8 (row8_set (OwnRow.beside HO.out (by omega) _) _ _ _ _ _ _ _ _))) rfl ⟨rfl, below8_set (hbw.setCell (by simp) _) (by simp) _ _ _ _ _ _ _ _⟩
    · obtain rfl : t3 = true := by simpa [tk] using ht
      clear ht
      rw [put_3]
      go_enter Try.func71, Try.ntmps71
      go_wp2_with fail
      refine (HT.out _).mono ?_
      rintro e w1 ⟨rfl, hb1⟩
      obtain ⟨ho1, ho2⟩ := own_two (xs := [_, _, _, _, _, _, _, _]) (ys := [_, _, _, _, _, _, _, _]) hb1
      have hbw : Below w.heap.size w w1 := (((Below.refl _ _).alloc (Nat.le_refl _) _).alloc (by simp) _).trans (hb1.mono (by simp; omega))
      have hz : w.heap.size + 1 < w1.heap.size := ho2.lt
      clear hb1
      obtain ⟨⟨a0, a1, a2, a3⟩, ⟨a4, a5, a6, a7⟩⟩ := ho1.eight
      obtain ⟨⟨b0, b1, b2, b3⟩, ⟨b4, b5, b6, b7⟩⟩ := ho2.eight
      have f0 := ho1.free
      have f1 := ho2.free
      have HO : Hid _ := ho2
      clear ho1 ho2
      go_wp2
      exact bodyPost_ret (v := keV (t0, d0, t1, d1, t2, d2, true, d) 0) (results_cell_tmp Try.results71 _ _ _ _ _ rfl rfl (load8 (row8_set (OwnRow.beside HO.out (by omega) _) _ _ _ _ _ _ _ _))) rfl ⟨rfl, below8_set (hbw.setCell (by simp) _) (by simp) _ _ _ _ _ _ _ _⟩

set_option maxHeartbeats 1600000 in
theorem free_any (l : K8) (k : Int) (w : World) :
    Calls Try.prog 68 #[kv l, .int .i64 k] w fun e w' => e = .returned (keV (frL l k) (frE l k)) ∧ Below w.heap.size w w' := by
  have HT : Hid (∀ w1, Calls Try.prog 84 #[kv l, .int .i64 k] w1 fun e w' => e = .returned (.bool (tk l k)) ∧ Below w1.heap.size w1 w') := fun w1 => isTaken_any l k w1
  by_cases hk0 : k = 0
  · have h1 : frL l k = no8 ∧ frE l k = 3 := by simp [frL, frE, hk0]
    rw [h1.1, h1.2]
    clear h1 HT
    subst hk0
    obtain ⟨t0, d0, t1, d1, t2, d2, t3, d3⟩ := l
    go_enter Try.func68, Try.ntmps68
    go_wp2
    exact bodyPost_ret (v := keV no8 3) (results_cell_tmp Try.results68 _ _ _ _ _ rfl rfl (load8 (own_two (xs := [_, _, _, _, _, _, _, _]) (ys := [_, _, _, _, _, _, _, _]) (Below.refl _ _)).2)) rfl ⟨rfl, ((Below.refl _ _).alloc (Nat.le_refl _) _).alloc (by simp) _⟩
  cases ht : tk l k
  · have h1 : frL l k = no8 ∧ frE l k = 3 := by simp [frL, frE, ht]
    rw [h1.1, h1.2]
    clear h1
    rw [ht] at HT
    clear ht
    obtain ⟨t0, d0, t1, d1, t2, d2, t3, d3⟩ := l
    go_enter Try.func68, Try.ntmps68
    go_wp2_with fail
    refine (HT.out _).mono ?_
    rintro e w1 ⟨rfl, hb1⟩
    obtain ⟨ho1, ho2⟩ := own_two (xs := [_, _, _, _, _, _, _, _]) (ys := [_, _, _, _, _, _, _, _]) hb1
    have hbw : Below w.heap.size w w1 := (((Below.refl _ _).alloc (Nat.le_refl _) _).alloc (by simp) _).trans (hb1.mono (by simp; omega))
    have hz : w.heap.size + 1 < w1.heap.size := ho2.lt
    clear hb1
    obtain ⟨⟨a0, a1, a2, a3⟩, ⟨a4, a5, a6, a7⟩⟩ := ho1.eight
    obtain ⟨⟨b0, b1, b2, b3⟩, ⟨b4, b5, b6, b7⟩⟩ := ho2.eight
    have f0 := ho1.free
    have f1 := ho2.free
    have HO : Hid _ := ho2
    clear ho1 ho2
    go_wp2
    exact bodyPost_ret (v := keV (no8) 3) (results_cell_tmp Try.results68 _ _ _ _ _ rfl rfl (load8 (row8_set (HO.out) _ _ _ _ _ _ _ _))) rfl ⟨rfl, below8_set (hbw) (by simp) _ _ _ _ _ _ _ _⟩
  · have h1 : frL l k = put l k false 0 ∧ frE l k = 0 := by simp [frL, frE, ht, hk0]
    rw [h1.1, h1.2]
    clear h1
    rw [ht] at HT
    have hk := tk_key ht
    clear ht
    obtain ⟨t0, d0, t1, d1, t2, d2, t3, d3⟩ := l
    rcases hk with rfl | rfl | rfl | rfl
    · exact absurd rfl hk0
    · rw [put_1]
      clear hk0
      go_enter Try.func68, Try.ntmps68
      go_wp2_with fail
      refine (HT.out _).mono ?_
      rintro e w1 ⟨rfl, hb1⟩
      obtain ⟨ho1, ho2⟩ := own_two (xs := [_, _, _, _, _, _, _, _]) (ys := [_, _, _, _, _, _, _, _]) hb1
      have hbw : Below w.heap.size w w1 := (((Below.refl _ _).alloc (Nat.le_refl _) _).alloc (by simp) _).trans (hb1.mono (by simp; omega))
      have hz : w.heap.size + 1 < w1.heap.size := ho2.lt
      clear hb1
      obtain ⟨⟨a0, a1, a2, a3⟩, ⟨a4, a5, a6, a7⟩⟩ := ho1.eight
      obtain ⟨⟨b0, b1, b2, b3⟩, ⟨b4, b5, b6, b7⟩⟩ := ho2.eight
      have f0 := ho1.free
      have f1 := ho2.free
      have HO : Hid _ := ho2
      clear ho1 ho2
      go_wp2
      exact bodyPost_ret (v := keV (t0, d0, false, 0, t2, d2, t3, d3) 0) (results_cell_tmp Try.results68 _ _ _ _ _ rfl rfl (load8 (row8_set (OwnRow.beside (OwnRow.beside HO.out (by omega) _) (by omega) _) _ _ _ _ _ _ _ _))) rfl ⟨rfl, below8_set ((hbw.setCell (by simp) _).setCell (by simp) _) (by simp) _ _ _ _ _ _ _ _⟩
    · rw [put_2]
      clear hk0
      go_enter Try.func68, Try.ntmps68
      go_wp2_with fail
      refine (HT.out _).mono ?_
      rintro e w1 ⟨rfl, hb1⟩
      obtain ⟨ho1, ho2⟩ := own_two (xs := [_, _, _, _, _, _, _, _]) (ys := [_, _, _, _, _, _, _, _]) hb1
      have hbw : Below w.heap.size w w1 := (((Below.refl _ _).alloc (Nat.le_refl _) _).alloc (by simp) _).trans (hb1.mono (by simp; omega))
      have hz : w.heap.size + 1 < w1.heap.size := ho2.lt
      clear hb1
      obtain ⟨⟨a0, a1, a2, a3⟩, ⟨a4, a5, a6, a7⟩⟩ := ho1.eight
      obtain ⟨⟨b0, b1, b2, b3⟩, ⟨b4, b5, b6, b7⟩⟩ := ho2.eight
      have f0 := ho1.free
      have f1 := ho2.free
      have HO : Hid _ := ho2
      clear ho1 ho2
      go_wp2
      exact bodyPost_ret (v := keV (t0, d0, t1, d1, false, 0, t3, d3) 0) (results_cell_tmp Try.results68 _ _ _ _ _ rfl rfl (load8 (row8_set (OwnRow.beside (OwnRow.beside HO.out (by omega) _) (by omega) _) _ _ _ _ _ _ _ _))) rfl ⟨rfl, below8_set ((hbw.setCell (by simp) _).setCell (by simp) _) (by simp) _ _ _ _ _ _ _ _⟩
    · rw [put_3]
      clear hk0
      go_enter Try.func68, Try.ntmps68
      go_wp2_with fail
      refine (HT.out _).mono ?_
      rintro e w1 ⟨rfl, hb1⟩
      obtain ⟨ho1, ho2⟩ := own_two (xs := [_, _, _, _, _, _, _, _]) (ys := [_, _, _, _, _, _, _, _]) hb1
      have hbw : Below w.heap.size w w1 := (((Below.refl _ _).alloc (Nat.le_refl _) _).alloc (by simp) _).trans (hb1.mono (by simp; omega))
      have hz : w.heap.size + 1 < w1.heap.size := ho2.lt
      clear hb1
      obtain ⟨⟨a0, a1, a2, a3⟩, ⟨a4, a5, a6, a7⟩⟩ := ho1.eight
      obtain ⟨⟨b0, b1, b2, b3⟩, ⟨b4, b5, b6, b7⟩⟩ := ho2.eight
      have f0 := ho1.free
      have f1 := ho2.free
      have HO : Hid _ := ho2
      clear ho1 ho2
      go_wp2
      exact bodyPost_ret (v := keV (t0, d0, t1, d1, t2, d2, false, 0) 0) (results_cell_tmp Try.results68 _ _ _ _ _ rfl rfl (load8 (row8_set (OwnRow.beside (OwnRow.beside HO.out (by omega) _) (by omega) _) _ _ _ _ _ _ _ _))) rfl ⟨rfl, below8_set ((hbw.setCell (by simp) _).setCell (by simp) _) (by simp) _ _ _ _ _ _ _ _⟩

end Go.Proofs.Ytbiipnojhjhejaa

/- The contract of keys.New over the loaded program. -/
namespace Go.Proofs.Ytbiipnojhjhejaa
set_option maxRecDepth 100000
open Go.RowKit
set_option linter.unusedSimpArgs false
set_option linter.unusedVariables false

theorem OwnRow.alloc {w : World} {g : Nat} {e : TypeId} {xs : List Value} (h : OwnRow w g e xs) (o : Obj) : OwnRow (w.alloc o) g e xs := h.below ((Below.refl _ _).alloc (Nat.le_refl _) _) h.lt

theorem below_al {v w : World} (h : Below v.heap.size v w) (o : Obj) : Below v.heap.size v (w.alloc o) := h.alloc h.size o

/-- Keys, a number and an error, as they are returned. -/
abbrev kneV (l : K8) (n e : Int) : Value := .tuple #[kv l, .int .i64 n, .int .i64 e]

set_option maxHeartbeats 1600000 in
theorem new_0 (t1 t2 t3 : Bool) (d0 d1 d2 d3 : Int) (w : World) :
    Calls Try.prog 67 #[kv (false, d0, t1, d1, t2, d2, t3, d3)] w fun e w' => e = .returned (kneV (true, 0, t1, d1, t2, d2, t3, d3) 0 0) ∧ Below w.heap.size w w' := by
  have H2 : Hid (OwnRow ((w.alloc (.cells #[.bool false, .int .i64 d0, .bool t1, .int .i64 d1, .bool t2, .int .i64 d2, .bool t3, .int .i64 d3] 30)).alloc (.cells #[.bool false, .int .i64 0, .bool false, .int .i64 0, .bool false, .int .i64 0, .bool false, .int .i64 0] 30)) w.heap.size 30 [.bool false, .int .i64 d0, .bool t1, .int .i64 d1, .bool t2, .int .i64 d2, .bool t3, .int .i64 d3] ∧ OwnRow ((w.alloc (.cells #[.bool false, .int .i64 d0, .bool t1, .int .i64 d1, .bool t2, .int .i64 d2, .bool t3, .int .i64 d3] 30)).alloc (.cells #[.bool false, .int .i64 0, .bool false, .int .i64 0, .bool false, .int .i64 0, .bool false, .int .i64 0] 30)) (w.heap.size + 1) 30 [.bool false, .int .i64 0, .bool false, .int .i64 0, .bool false, .int .i64 0, .bool false, .int .i64 0]) := own_two (xs := [_, _, _, _, _, _, _, _]) (ys := [_, _, _, _, _, _, _, _]) (Below.refl _ _)
  have hb2 : Hid (∀ o1 o2, Below w.heap.size w ((w.alloc o1).alloc o2)) := fun o1 o2 => ((Below.refl _ _).alloc (Nat.le_refl _) _).alloc (by simp) _
  go_enter Try.func67, Try.ntmps67
  go_wp2_with fail
  go_loopw [8] (fun i wr => ∃ j : Nat, j ≤ 0 ∧ i = .int .i64 j ∧ OwnRow wr w.heap.size 30 [.bool false, .int .i64 d0, .bool t1, .int .i64 d1, .bool t2, .int .i64 d2, .bool t3, .int .i64 d3] ∧ OwnRow wr (w.heap.size + 1) 30 [.bool false, .int .i64 0, .bool false, .int .i64 0, .bool false, .int .i64 0, .bool false, .int .i64 0] ∧ Below w.heap.size w wr) (fun i _ => 4 - (intOf i).toNat)
  case atStart => exact ⟨0, by omega, rfl, H2.out.1, H2.out.2, hb2.out _ _⟩
  case round =>
    clear H2 hb2
    obtain ⟨j, hj, rfl, hA, hB, hbel⟩ := hrel
    have hzB : w.heap.size + 1 < wr.heap.size := hB.lt
    have hzA : w.heap.size < wr.heap.size := hA.lt
    have hx0 : ∀ w : World, (Instr.index 30 (.agg #[.bool false, .int .i64 d0, .bool t1, .int .i64 d1, .bool t2, .int .i64 d2, .bool t3, .int .i64 d3]) (.int .i64 0)).run Try.prog w = .ok (.agg #[.bool false, .int .i64 d0]) w := fun _ => by kernel_rfl
    have hx1 : ∀ w : World, (Instr.index 30 (.agg #[.bool false, .int .i64 d0, .bool t1, .int .i64 d1, .bool t2, .int .i64 d2, .bool t3, .int .i64 d3]) (.int .i64 1)).run Try.prog w = .ok (.agg #[.bool t1, .int .i64 d1]) w := fun _ => by kernel_rfl
    have hx2 : ∀ w : World, (Instr.index 30 (.agg #[.bool false, .int .i64 d0, .bool t1, .int .i64 d1, .bool t2, .int .i64 d2, .bool t3, .int .i64 d3]) (.int .i64 2)).run Try.prog w = .ok (.agg #[.bool t2, .int .i64 d2]) w := fun _ => by kernel_rfl
    have hx3 : ∀ w : World, (Instr.index 30 (.agg #[.bool false, .int .i64 d0, .bool t1, .int .i64 d1, .bool t2, .int .i64 d2, .bool t3, .int .i64 d3]) (.int .i64 3)).run Try.prog w = .ok (.agg #[.bool t3, .int .i64 d3]) w := fun _ => by kernel_rfl
    have HN : Hid (∀ o, OwnRow (wr.alloc o) w.heap.size 30 [.bool false, .int .i64 d0, .bool t1, .int .i64 d1, .bool t2, .int .i64 d2, .bool t3, .int .i64 d3] ∧ OwnRow (wr.alloc o) (w.heap.size + 1) 30 [.bool false, .int .i64 0, .bool false, .int .i64 0, .bool false, .int .i64 0, .bool false, .int .i64 0] ∧ Below w.heap.size w (wr.alloc o)) := fun o => ⟨hA.below ((Below.refl _ _).alloc (Nat.le_refl _) _) hA.lt, hB.below ((Below.refl _ _).alloc (Nat.le_refl _) _) hB.lt, hbel.alloc hbel.size _⟩
    have hj4 : j = 0 := by omega
    clear hj
    rcases hj4 with rfl
    · have f0 := hA.free
      have f1 := hB.free
      obtain ⟨⟨a0, a1, a2, a3⟩, ⟨a4, a5, a6, a7⟩⟩ := hA.eight
      obtain ⟨⟨b0, b1, b2, b3⟩, ⟨b4, b5, b6, b7⟩⟩ := hB.eight
      have HB : Hid (OwnRow wr (w.heap.size + 1) 30 [.bool false, .int .i64 0, .bool false, .int .i64 0, .bool false, .int .i64 0, .bool false, .int .i64 0] ∧ Below w.heap.size w wr) := ⟨hB, hbel⟩
      clear hA hB hbel
      go_wp2
      exact bodyPost_ret (v := kneV (true, 0, t1, d1, t2, d2, t3, d3) 0 0) (results_cell_tmps Try.results67 _ _ _ _ _ _ rfl rfl rfl (load8 (OwnRow.alloc (row8_set (OwnRow.beside (OwnRow.beside HB.out.1 (by omega) _) (by omega) _) _ _ _ _ _ _ _ _) _))) rfl ⟨rfl, below_al (below8_set ((HB.out.2.setCell (by simp) _).setCell (by simp) _) (by simp) _ _ _ _ _ _ _ _) _⟩

set_option maxHeartbeats 1600000 in
theorem new_1 (t2 t3 : Bool) (d0 d1 d2 d3 : Int) (w : World) :
    Calls Try.prog 67 #[kv (true, d0, false, d1, t2, d2, t3, d3)] w fun e w' => e = .returned (kneV (true, d0, true, 0, t2, d2, t3, d3) 1 0) ∧ Below w.heap.size w w' := by
  have H2 : Hid (OwnRow ((w.alloc (.cells #[.bool true, .int .i64 d0, .bool false, .int .i64 d1, .bool t2, .int .i64 d2, .bool t3, .int .i64 d3] 30)).alloc (.cells #[.bool false, .int .i64 0, .bool false, .int .i64 0, .bool false, .int .i64 0, .bool false, .int .i64 0] 30)) w.heap.size 30 [.bool true, .int .i64 d0, .bool false, .int .i64 d1, .bool t2, .int .i64 d2, .bool t3, .int .i64 d3] ∧ OwnRow ((w.alloc (.cells #[.bool true, .int .i64 d0, .bool false, .int .i64 d1, .bool t2, .int .i64 d2, .bool t3, .int .i64 d3] 30)).alloc (.cells #[.bool false, .int .i64 0, .bool false, .int .i64 0, .bool false, .int .i64 0, .bool false, .int .i64 0] 30)) (w.heap.size + 1) 30 [.bool false, .int .i64 0, .bool false, .int .i64 0, .bool false, .int .i64 0, .bool false, .int .i64 0]) := own_two (xs := [_, _, _, _, _, _, _, _]) (ys := [_, _, _, _, _, _, _, _]) (Below.refl _ _)
  have hb2 : Hid (∀ o1 o2, Below w.heap.size w ((w.alloc o1).alloc o2)) := fun o1 o2 => ((Below.refl _ _).alloc (Nat.le_refl _) _).alloc (by simp) _
  go_enter Try.func67, Try.ntmps67
  go_wp2_with fail
  go_loopw [8] (fun i wr => ∃ j : Nat, j ≤ 1 ∧ i = .int .i64 j ∧ OwnRow wr w.heap.size 30 [.bool true, .int .i64 d0, .bool false, .int .i64 d1, .bool t2, .int .i64 d2, .bool t3, .int .i64 d3] ∧ OwnRow wr (w.heap.size + 1) 30 [.bool false, .int .i64 0, .bool false, .int .i64 0, .bool false, .int .i64 0, .bool false, .int .i64 0] ∧ Below w.heap.size w wr) (fun i _ => 4 - (intOf i).toNat)
  case atStart => exact ⟨0, by omega, rfl, H2.out.1, H2.out.2, hb2.out _ _⟩
  case round =>
    clear H2 hb2
    obtain ⟨j, hj, rfl, hA, hB, hbel⟩ := hrel
    have hzB : w.heap.size + 1 < wr.heap.size := hB.lt
    have hzA : w.heap.size < wr.heap.size := hA.lt
    have hx0 : ∀ w : World, (Instr.index 30 (.agg #[.bool true, .int .i64 d0, .bool false, .int .i64 d1, .bool t2, .int .i64 d2, .bool t3, .int .i64 d3]) (.int .i64 0)).run Try.prog w = .ok (.agg #[.bool true, .int .i64 d0]) w := fun _ => by kernel_rfl
    have hx1 : ∀ w : World, (Instr.index 30 (.agg #[.bool true, .int .i64 d0, .bool false, .int .i64 d1, .bool t2, .int .i64 d2, .bool t3, .int .i64 d3]) (.int .i64 1)).run Try.prog w = .ok (.agg #[.bool false, .int .i64 d1]) w := fun _ => by kernel_rfl
    have hx2 : ∀ w : World, (Instr.index 30 (.agg #[.bool true, .int .i64 d0, .bool false, .int .i64 d1, .bool t2, .int .i64 d2, .bool t3, .int .i64 d3]) (.int .i64 2)).run Try.prog w = .ok (.agg #[.bool t2, .int .i64 d2]) w := fun _ => by kernel_rfl
    have hx3 : ∀ w : World, (Instr.index 30 (.agg #[.bool true, .int .i64 d0, .bool false, .int .i64 d1, .bool t2, .int .i64 d2, .bool t3, .int .i64 d3]) (.int .i64 3)).run Try.prog w = .ok (.agg #[.bool t3, .int .i64 d3]) w := fun _ => by kernel_rfl
    have HN : Hid (∀ o, OwnRow (wr.alloc o) w.heap.size 30 [.bool true, .int .i64 d0, .bool false, .int .i64 d1, .bool t2, .int .i64 d2, .bool t3, .int .i64 d3] ∧ OwnRow (wr.alloc o) (w.heap.size + 1) 30 [.bool false, .int .i64 0, .bool false, .int .i64 0, .bool false, .int .i64 0, .bool false, .int .i64 0] ∧ Below w.heap.size w (wr.alloc o)) := fun o => ⟨hA.below ((Below.refl _ _).alloc (Nat.le_refl _) _) hA.lt, hB.below ((Below.refl _ _).alloc (Nat.le_refl _) _) hB.lt, hbel.alloc hbel.size _⟩
    have hj4 : j = 0 ∨ j = 1 := by omega
    clear hj
    rcases hj4 with rfl | rfl
    · clear hA hB
      go_wp2
      go_roundw
      case rel => exact ⟨1, by omega, rfl, (HN.out _).1, (HN.out _).2.1, (HN.out _).2.2⟩
      case measure => simp [intOf]
    · have f0 := hA.free
      have f1 := hB.free
      obtain ⟨⟨a0, a1, a2, a3⟩, ⟨a4, a5, a6, a7⟩⟩ := hA.eight
      obtain ⟨⟨b0, b1, b2, b3⟩, ⟨b4, b5, b6, b7⟩⟩ := hB.eight
      have HB : Hid (OwnRow wr (w.heap.size + 1) 30 [.bool false, .int .i64 0, .bool false, .int .i64 0, .bool false, .int .i64 0, .bool false, .int .i64 0] ∧ Below w.heap.size w wr) := ⟨hB, hbel⟩
      clear hA hB hbel
      go_wp2
      exact bodyPost_ret (v := kneV (true, d0, true, 0, t2, d2, t3, d3) 1 0) (results_cell_tmps Try.results67 _ _ _ _ _ _ rfl rfl rfl (load8 (OwnRow.alloc (row8_set (OwnRow.beside (OwnRow.beside HB.out.1 (by omega) _) (by omega) _) _ _ _ _ _ _ _ _) _))) rfl ⟨rfl, below_al (below8_set ((HB.out.2.setCell (by simp) _).setCell (by simp) _) (by simp) _ _ _ _ _ _ _ _) _⟩

set_option maxHeartbeats 1600000 in
theorem new_2 (t3 : Bool) (d0 d1 d2 d3 : Int) (w : World) :
    Calls Try.prog 67 #[kv (true, d0, true, d1, false, d2, t3, d3)] w fun e w' => e = .returned (kneV (true, d0, true, d1, true, 0, t3, d3) 2 0) ∧ Below w.heap.size w w' := by
  have H2 : Hid (OwnRow ((w.alloc (.cells #[.bool true, .int .i64 d0, .bool true, .int .i64 d1, .bool false, .int .i64 d2, .bool t3, .int .i64 d3] 30)).alloc (.cells #[.bool false, .int .i64 0, .bool false, .int .i64 0, .bool false, .int .i64 0, .bool false, .int .i64 0] 30)) w.heap.size 30 [.bool true, .int .i64 d0, .bool true, .int .i64 d1, .bool false, .int .i64 d2, .bool t3, .int .i64 d3] ∧ OwnRow ((w.alloc (.cells #[.bool true, .int .i64 d0, .bool true, .int .i64 d1, .bool false, .int .i64 d2, .bool t3, .int .i64 d3] 30)).alloc (.cells #[.bool false, .int .i64 0, .bool false, .int .i64 0, .bool false, .int .i64 0, .bool false, .int .i64 0] 30)) (w.heap.size + 1) 30 [.bool false, .int .i64 0, .bool false, .int .i64 0, .bool false, .int .i64 0, .bool false, .int .i64 0]) := own_two (xs := [_, _, _, _, _, _, _, _]) (ys := [_, _, _, _, _, _, _, _]) (Below.refl _ _)
  have hb2 : Hid (∀ o1 o2, Below w.heap.size w ((w.alloc o1).alloc o2)) := fun o1 o2 => ((Below.refl _ _).alloc (Nat.le_refl _) _).alloc (by simp) _
  go_enter Try.func67, Try.ntmps67
  go_wp2_with fail
  go_loopw [8] (fun i wr => ∃ j : Nat, j ≤ 2 ∧ i = .int .i64 j ∧ OwnRow wr w.heap.size 30 [.bool true, .int .i64 d0, .bool true, .int .i64 d1, .bool false, .int .i64 d2, .bool t3, .int .i64 d3] ∧ OwnRow wr (w.heap.size + 1) 30 [.bool false, .int .i64 0, .bool false, .int .i64 0, .bool false, .int .i64 0, .bool false, .int .i64 0] ∧ Below w.heap.size w wr) (fun i _ => 4 - (intOf i).toNat)
  case atStart => exact ⟨0, by omega, rfl, H2.out.1, H2.out.2, hb2.out _ _⟩
  case round =>
    clear H2 hb2
    obtain ⟨j, hj, rfl, hA, hB, hbel⟩ := hrel
    have hzB : w.heap.size + 1 < wr.heap.size := hB.lt
    have hzA : w.heap.size < wr.heap.size := hA.lt
    have hx0 : ∀ w : World, (Instr.index 30 (.agg #[.bool true, .int .i64 d0, .bool true, .int .i64 d1, .bool false, .int .i64 d2, .bool t3, .int .i64 d3]) (.int .i64 0)).run Try.prog w = .ok (.agg #[.bool true, .int .i64 d0]) w := fun _ => by kernel_rfl
    have hx1 : ∀ w : World, (Instr.index 30 (.agg #[.bool true, .int .i64 d0, .bool true, .int .i64 d1, .bool false, .int .i64 d2, .bool t3, .int .i64 d3]) (.int .i64 1)).run Try.prog w = .ok (.agg #[.bool true, .int .i64 d1]) w := fun _ => by kernel_rfl
    have hx2 : ∀ w : World, (Instr.index 30 (.agg #[.bool true, .int .i64 d0, .bool true, .int .i64 d1, .bool false, .int .i64 d2, .bool t3, .int .i64 d3]) (.int .i64 2)).run Try.prog w = .ok (.agg #[.bool false, .int .i64 d2]) w := fun _ => by kernel_rfl
    have hx3 : ∀ w : World, (Instr.index 30 (.agg #[.bool true, .int .i64 d0, .bool true, .int .i64 d1, .bool false, .int .i64 d2, .bool t3, .int .i64 d3]) (.int .i64 3)).run Try.prog w = .ok (.agg #[.bool t3, .int .i64 d3]) w := fun _ => by kernel_rfl
    have HN : Hid (∀ o, OwnRow (wr.alloc o) w.heap.size 30 [.bool true, .int .i64 d0, .bool true, .int .i64 d1, .bool false, .int .i64 d2, .bool t3, .int .i64 d3] ∧ OwnRow (wr.alloc o) (w.heap.size + 1) 30 [.bool false, .int .i64 0, .bool false, .int .i64 0, .bool false, .int .i64 0, .bool false, .int .i64 0] ∧ Below w.heap.size w (wr.alloc o)) := fun o => ⟨hA.below ((Below.refl _ _).alloc (Nat.le_refl _) _) hA.lt, hB.below ((Below.refl _ _).alloc (Nat.le_refl _) _) hB.lt, hbel.alloc hbel.size _⟩
    have hj4 : j = 0 ∨ j = 1 ∨ j = 2 := by omega
    clear hj
    rcases hj4 with rfl | rfl | rfl
    · clear hA hB
      go_wp2
      go_roundw
      case rel => exact ⟨1, by omega, rfl, (HN.out _).1, (HN.out _).2.1, (HN.out _).2.2⟩
      case measure => simp [intOf]
    · clear hA hB
      go_wp2
      go_roundw
      case rel => exact ⟨2, by omega, rfl, (HN.out _).1, (HN.out _).2.1, (HN.out _).2.2⟩
      case measure => simp [intOf]
    · have f0 := hA.free
      have f1 := hB.free
      obtain ⟨⟨a0, a1, a2, a3⟩, ⟨a4, a5, a6, a7⟩⟩ := hA.eight
      obtain ⟨⟨b0, b1, b2, b3⟩, ⟨b4, b5, b6, b7⟩⟩ := hB.eight
      have HB : Hid (OwnRow wr (w.heap.size + 1) 30 [.bool false, .int .i64 0, .bool false, .int .i64 0, .bool false, .int .i64 0, .bool false, .int .i64 0] ∧ Below w.heap.size w wr) := ⟨hB, hbel⟩
      clear hA hB hbel
      go_wp2
      exact bodyPost_ret (v := kneV (true, d0, true, d1, true, 0, t3, d3) 2 0) (results_cell_tmps Try.results67 _ _ _ _ _ _ rfl rfl rfl (load8 (OwnRow.alloc (row8_set (OwnRow.beside (OwnRow.beside HB.out.1 (by omega) _) (by omega) _) _ _ _ _ _ _ _ _) _))) rfl ⟨rfl, below_al (below8_set ((HB.out.2.setCell (by simp) _).setCell (by simp) _) (by simp) _ _ _ _ _ _ _ _) _⟩

set_option maxHeartbeats 1600000 in
theorem new_3 (d0 d1 d2 d3 : Int) (w : World) :
    Calls Try.prog 67 #[kv (true, d0, true, d1, true, d2, false, d3)] w fun e w' => e = .returned (kneV (true, d0, true, d1, true, d2, true, 0) 3 0) ∧ Below w.heap.size w w' := by
  have H2 : Hid (OwnRow ((w.alloc (.cells #[.bool true, .int .i64 d0, .bool true, .int .i64 d1, .bool true, .int .i64 d2, .bool false, .int .i64 d3] 30)).alloc (.cells #[.bool false, .int .i64 0, .bool false, .int .i64 0, .bool false, .int .i64 0, .bool false, .int .i64 0] 30)) w.heap.size 30 [.bool true, .int .i64 d0, .bool true, .int .i64 d1, .bool true, .int .i64 d2, .bool false, .int .i64 d3] ∧ OwnRow ((w.alloc (.cells #[.bool true, .int .i64 d0, .bool true, .int .i64 d1, .bool true, .int .i64 d2, .bool false, .int .i64 d3] 30)).alloc (.cells #[.bool false, .int .i64 0, .bool false, .int .i64 0, .bool false, .int .i64 0, .bool false, .int .i64 0] 30)) (w.heap.size + 1) 30 [.bool false, .int .i64 0, .bool false, .int .i64 0, .bool false, .int .i64 0, .bool false, .int .i64 0]) := own_two (xs := [_, _, _, _, _, _, _, _]) (ys := [_, _, _, _, _, _, _, _]) (Below.refl _ _)
  have hb2 : Hid (∀ o1 o2, Below w.heap.size w ((w.alloc o1).alloc o2)) := fun o1 o2 => ((Below.refl _ _).alloc (Nat.le_refl _) _).alloc (by simp) _
  go_enter Try.func67, Try.ntmps67
  go_wp2_with fail
  go_loopw [8] (fun i wr => ∃ j : Nat, j ≤ 3 ∧ i = .int .i64 j ∧ OwnRow wr w.heap.size 30 [.bool true, .int .i64 d0, .bool true, .int .i64 d1, .bool true, .int .i64 d2, .bool false, .int .i64 d3] ∧ OwnRow wr (w.heap.size + 1) 30 [.bool false, .int .i64 0, .bool false, .int .i64 0, .bool false, .int .i64 0, .bool false, .int .i64 0] ∧ Below w.heap.size w wr) (fun i _ => 4 - (intOf i).toNat)
  case atStart => exact ⟨0, by omega, rfl, H2.out.1, H2.out.2, hb2.out _ _⟩
  case round =>
    clear H2 hb2
    obtain ⟨j, hj, rfl, hA, hB, hbel⟩ := hrel
    have hzB : w.heap.size + 1 < wr.heap.size := hB.lt
    have hzA : w.heap.size < wr.heap.size := hA.lt
    have hx0 : ∀ w : World, (Instr.index 30 (.agg #[.bool true, .int .i64 d0, .bool true, .int .i64 d1, .bool true, .int .i64 d2, .bool false, .int .i64 d3]) (.int .i64 0)).run Try.prog w = .ok (.agg #[.bool true, .int .i64 d0]) w := fun _ => by kernel_rfl
    have hx1 : ∀ w : World, (Instr.index 30 (.agg #[.bool true, .int .i64 d0, .bool true, .int .i64 d1, .bool true, .int .i64 d2, .bool false, .int .i64 d3]) (.int .i64 1)).run Try.prog w = .ok (.agg #[.bool true, .int .i64 d1]) w := fun _ => by kernel_rfl
    have hx2 : ∀ w : World, (Instr.index 30 (.agg #[.bool true, .int .i64 d0, .bool true, .int .i64 d1, .bool true, .int .i64 d2, .bool false, .int .i64 d3]) (.int .i64 2)).run Try.prog w = .ok (.agg #[.bool true, .int .i64 d2]) w := fun _ => by kernel_rfl
    have hx3 : ∀ w : World, (Instr.index 30 (.agg #[.bool true, .int .i64 d0, .bool true, .int .i64 d1, .bool true, .int .i64 d2, .bool false, .int .i64 d3]) (.int .i64 3)).run Try.prog w = .ok (.agg #[.bool false, .int .i64 d3]) w := fun _ => by kernel_rfl
    have HN : Hid (∀ o, OwnRow (wr.alloc o) w.heap.size 30 [.bool true, .int .i64 d0, .bool true, .int .i64 d1, .bool true, .int .i64 d2, .bool false, .int .i64 d3] ∧ OwnRow (wr.alloc o) (w.heap.size + 1) 30 [.bool false, .int .i64 0, .bool false, .int .i64 0, .bool false, .int .i64 0, .bool false, .int .i64 0] ∧ Below w.heap.size w (wr.alloc o)) := fun o => ⟨hA.below ((Below.refl _ _).alloc (Nat.le_refl _) _) hA.lt, hB.below ((Below.refl _ _).alloc (Nat.le_refl _) _) hB.lt, hbel.alloc hbel.size _⟩
    have hj4 : j = 0 ∨ j = 1 ∨ j = 2 ∨ j = 3 := by omega
    clear hj
    rcases hj4 with rfl | rfl | rfl | rfl
    · clear hA hB
      go_wp2
      go_roundw
      case rel => exact ⟨1, by omega, rfl, (HN.out _).1, (HN.out _).2.1, (HN.out _).2.2⟩
      case measure => simp [intOf]
    · clear hA hB
      go_wp2
      go_roundw
      case rel => exact ⟨2, by omega, rfl, (HN.out _).1, (HN.out _).2.1, (HN.out _).2.2⟩
      case measure => simp [intOf]
    · clear hA hB
      go_wp2
      go_roundw
      case rel => exact ⟨3, by omega, rfl, (HN.out _).1, (HN.out _).2.1, (HN.out _).2.2⟩
      case measure => simp [intOf]
    · have f0 := hA.free
      have f1 := hB.free
      obtain ⟨⟨a0, a1, a2, a3⟩, ⟨a4, a5, a6, a7⟩⟩ := hA.eight
      obtain ⟨⟨b0, b1, b2, b3⟩, ⟨b4, b5, b6, b7⟩⟩ := hB.eight
      have HB : Hid (OwnRow wr (w.heap.size + 1) 30 [.bool false, .int .i64 0, .bool false, .int .i64 0, .bool false, .int .i64 0, .bool false, .int .i64 0] ∧ Below w.heap.size w wr) := ⟨hB, hbel⟩
      clear hA hB hbel
      go_wp2
      exact bodyPost_ret (v := kneV (true, d0, true, d1, true, d2, true, 0) 3 0) (results_cell_tmps Try.results67 _ _ _ _ _ _ rfl rfl rfl (load8 (OwnRow.alloc (row8_set (OwnRow.beside (OwnRow.beside HB.out.1 (by omega) _) (by omega) _) _ _ _ _ _ _ _ _) _))) rfl ⟨rfl, below_al (below8_set ((HB.out.2.setCell (by simp) _).setCell (by simp) _) (by simp) _ _ _ _ _ _ _ _) _⟩

set_option maxHeartbeats 1600000 in
theorem new_4 (d0 d1 d2 d3 : Int) (w : World) :
    Calls Try.prog 67 #[kv (true, d0, true, d1, true, d2, true, d3)] w fun e w' => e = .returned (kneV no8 0 4) ∧ Below w.heap.size w w' := by
  have H2 : Hid (OwnRow ((w.alloc (.cells #[.bool true, .int .i64 d0, .bool true, .int .i64 d1, .bool true, .int .i64 d2, .bool true, .int .i64 d3] 30)).alloc (.cells #[.bool false, .int .i64 0, .bool false, .int .i64 0, .bool false, .int .i64 0, .bool false, .int .i64 0] 30)) w.heap.size 30 [.bool true, .int .i64 d0, .bool true, .int .i64 d1, .bool true, .int .i64 d2, .bool true, .int .i64 d3] ∧ OwnRow ((w.alloc (.cells #[.bool true, .int .i64 d0, .bool true, .int .i64 d1, .bool true, .int .i64 d2, .bool true, .int .i64 d3] 30)).alloc (.cells #[.bool false, .int .i64 0, .bool false, .int .i64 0, .bool false, .int .i64 0, .bool false, .int .i64 0] 30)) (w.heap.size + 1) 30 [.bool false, .int .i64 0, .bool false, .int .i64 0, .bool false, .int .i64 0, .bool false, .int .i64 0]) := own_two (xs := [_, _, _, _, _, _, _, _]) (ys := [_, _, _, _, _, _, _, _]) (Below.refl _ _)
  have hb2 : Hid (∀ o1 o2, Below w.heap.size w ((w.alloc o1).alloc o2)) := fun o1 o2 => ((Below.refl _ _).alloc (Nat.le_refl _) _).alloc (by simp) _
  go_enter Try.func67, Try.ntmps67
  go_wp2_with fail
  go_loopw [8] (fun i wr => ∃ j : Nat, j ≤ 4 ∧ i = .int .i64 j ∧ OwnRow wr w.heap.size 30 [.bool true, .int .i64 d0, .bool true, .int .i64 d1, .bool true, .int .i64 d2, .bool true, .int .i64 d3] ∧ OwnRow wr (w.heap.size + 1) 30 [.bool false, .int .i64 0, .bool false, .int .i64 0, .bool false, .int .i64 0, .bool false, .int .i64 0] ∧ Below w.heap.size w wr) (fun i _ => 4 - (intOf i).toNat)
  case atStart => exact ⟨0, by omega, rfl, H2.out.1, H2.out.2, hb2.out _ _⟩
  case round =>
    clear H2 hb2
    obtain ⟨j, hj, rfl, hA, hB, hbel⟩ := hrel
    have hzB : w.heap.size + 1 < wr.heap.size := hB.lt
    have hzA : w.heap.size < wr.heap.size := hA.lt
    have hx0 : ∀ w : World, (Instr.index 30 (.agg #[.bool true, .int .i64 d0, .bool true, .int .i64 d1, .bool true, .int .i64 d2, .bool true, .int .i64 d3]) (.int .i64 0)).run Try.prog w = .ok (.agg #[.bool true, .int .i64 d0]) w := fun _ => by kernel_rfl
    have hx1 : ∀ w : World, (Instr.index 30 (.agg #[.bool true, .int .i64 d0, .bool true, .int .i64 d1, .bool true, .int .i64 d2, .bool true, .int .i64 d3]) (.int .i64 1)).run Try.prog w = .ok (.agg #[.bool true, .int .i64 d1]) w := fun _ => by kernel_rfl
    have hx2 : ∀ w : World, (Instr.index 30 (.agg #[.bool true, .int .i64 d0, .bool true, .int .i64 d1, .bool true, .int .i64 d2, .bool true, .int .i64 d3]) (.int .i64 2)).run Try.prog w = .ok (.agg #[.bool true, .int .i64 d2]) w := fun _ => by kernel_rfl
    have hx3 : ∀ w : World, (Instr.index 30 (.agg #[.bool true, .int .i64 d0, .bool true, .int .i64 d1, .bool true, .int .i64 d2, .bool true, .int .i64 d3]) (.int .i64 3)).run Try.prog w = .ok (.agg #[.bool true, .int .i64 d3]) w := fun _ => by kernel_rfl
    have HN : Hid (∀ o, OwnRow (wr.alloc o) w.heap.size 30 [.bool true, .int .i64 d0, .bool true, .int .i64 d1, .bool true, .int .i64 d2, .bool true, .int .i64 d3] ∧ OwnRow (wr.alloc o) (w.heap.size + 1) 30 [.bool false, .int .i64 0, .bool false, .int .i64 0, .bool false, .int .i64 0, .bool false, .int .i64 0] ∧ Below w.heap.size w (wr.alloc o)) := fun o => ⟨hA.below ((Below.refl _ _).alloc (Nat.le_refl _) _) hA.lt, hB.below ((Below.refl _ _).alloc (Nat.le_refl _) _) hB.lt, hbel.alloc hbel.size _⟩
    have hj4 : j = 0 ∨ j = 1 ∨ j = 2 ∨ j = 3 ∨ j = 4 := by omega
    clear hj
    rcases hj4 with rfl | rfl | rfl | rfl | rfl
    · clear hA hB
      go_wp2
      go_roundw
      case rel => exact ⟨1, by omega, rfl, (HN.out _).1, (HN.out _).2.1, (HN.out _).2.2⟩
      case measure => simp [intOf]
    · clear hA hB
      go_wp2
      go_roundw
      case rel => exact ⟨2, by omega, rfl, (HN.out _).1, (HN.out _).2.1, (HN.out _).2.2⟩
      case measure => simp [intOf]
    · clear hA hB
      go_wp2
      go_roundw
      case rel => exact ⟨3, by omega, rfl, (HN.out _).1, (HN.out _).2.1, (HN.out _).2.2⟩
      case measure => simp [intOf]
    · clear hA hB
      go_wp2
      go_roundw
      case rel => exact ⟨4, by omega, rfl, (HN.out _).1, (HN.out _).2.1, (HN.out _).2.2⟩
      case measure => simp [intOf]
    · have f0 := hA.free
      have f1 := hB.free
      obtain ⟨⟨a0, a1, a2, a3⟩, ⟨a4, a5, a6, a7⟩⟩ := hA.eight
      obtain ⟨⟨b0, b1, b2, b3⟩, ⟨b4, b5, b6, b7⟩⟩ := hB.eight
      have HB : Hid (OwnRow wr (w.heap.size + 1) 30 [.bool false, .int .i64 0, .bool false, .int .i64 0, .bool false, .int .i64 0, .bool false, .int .i64 0] ∧ Below w.heap.size w wr) := ⟨hB, hbel⟩
      clear hA hB hbel
      go_wp2
      exact bodyPost_ret (v := kneV no8 0 4) (results_cell_tmps Try.results67 _ _ _ _ _ _ rfl rfl rfl (load8 (row8_set (HB.out.1) _ _ _ _ _ _ _ _))) rfl ⟨rfl, below8_set (HB.out.2) (by simp) _ _ _ _ _ _ _ _⟩

theorem new_any (l : K8) (w : World) :
    Calls Try.prog 67 #[kv l] w fun e w' => e = .returned (kneV (nwL l) (nwN l) (nwE l)) ∧ Below w.heap.size w w' := by
  obtain ⟨t0, d0, t1, d1, t2, d2, t3, d3⟩ := l
  cases t0
  · have hn : nwL (false, d0, t1, d1, t2, d2, t3, d3) = (true, 0, t1, d1, t2, d2, t3, d3) ∧ nwN (false, d0, t1, d1, t2, d2, t3, d3) = 0 ∧ nwE (false, d0, t1, d1, t2, d2, t3, d3) = 0 := by simp [nwL, nwN, nwE, fst4, put]
    rw [hn.1, hn.2.1, hn.2.2]
    exact new_0 t1 t2 t3 d0 d1 d2 d3 w
  cases t1
  · have hn : nwL (true, d0, false, d1, t2, d2, t3, d3) = (true, d0, true, 0, t2, d2, t3, d3) ∧ nwN (true, d0, false, d1, t2, d2, t3, d3) = 1 ∧ nwE (true, d0, false, d1, t2, d2, t3, d3) = 0 := by simp [nwL, nwN, nwE, fst4, put]
    rw [hn.1, hn.2.1, hn.2.2]
    exact new_1 t2 t3 d0 d1 d2 d3 w
  cases t2
  · have hn : nwL (true, d0, true, d1, false, d2, t3, d3) = (true, d0, true, d1, true, 0, t3, d3) ∧ nwN (true, d0, true, d1, false, d2, t3, d3) = 2 ∧ nwE (true, d0, true, d1, false, d2, t3, d3) = 0 := by simp [nwL, nwN, nwE, fst4, put]
    rw [hn.1, hn.2.1, hn.2.2]
    exact new_2 t3 d0 d1 d2 d3 w
  cases t3
  · have hn : nwL (true, d0, true, d1, true, d2, false, d3) = (true, d0, true, d1, true, d2, true, 0) ∧ nwN (true, d0, true, d1, true, d2, false, d3) = 3 ∧ nwE (true, d0, true, d1, true, d2, false, d3) = 0 := by simp [nwL, nwN, nwE, fst4, put]
    rw [hn.1, hn.2.1, hn.2.2]
    exact new_3  d0 d1 d2 d3 w
  · have hn : nwL (true, d0, true, d1, true, d2, true, d3) = no8 ∧ nwN (true, d0, true, d1, true, d2, true, d3) = 0 ∧ nwE (true, d0, true, d1, true, d2, true, d3) = 4 := by simp [nwL, nwN, nwE, fst4, put]
    rw [hn.1, hn.2.1, hn.2.2]
    exact new_4  d0 d1 d2 d3 w

end Go.Proofs.Ytbiipnojhjhejaa

/- Slices of bytes as lists of numbers: what reads as them, a row of the call's own, string(b); no function of the program is named. -/
namespace Go.Proofs.Ytbiipnojhjhejaa
set_option maxRecDepth 100000
open Go.RowKit

/-- The value v is a slice of the bytes zs in the world w. -/
def IsBytes (w : World) (v : Value) (zs : List Int) : Prop :=
  ∃ a cap, v = .slice a zs.length cap ∧ zs.length ≤ cap ∧ zs.length ≤ 140737488351232 ∧ Bytes zs ∧
    (0 < zs.length → ∃ b off, a = some ⟨b, off, none⟩ ∧ ∀ i, i < zs.length → w.cell? ⟨b, off + i, none⟩ = some (.int .u8 (zs.getD i 0)))

theorem IsBytes.below {w w' : World} {v : Value} {zs : List Int} (h : IsBytes w v zs) (hb : Below w.heap.size w w') : IsBytes w' v zs := by
  obtain ⟨a, cap, rfl, h1, h2, h3, h4⟩ := h
  refine ⟨a, cap, rfl, h1, h2, h3, fun hp => ?_⟩
  obtain ⟨b, off, rfl, hc⟩ := h4 hp
  refine ⟨b, off, rfl, fun i hi => ?_⟩
  rw [← hc i hi]
  exact hb.cell (cell_lt (hc i hi))

theorem Try.infoU8 : (Try.prog.info? 5).map (fun i => (i.zero, i.size, i.bytes)) = some (some (.int .u8 0), 1, 1) := by kernel_rfl
theorem Try.sizeU8 : (Try.prog.info? 5).map (·.size) = some 1 := by kernel_rfl

/-- Numbers as cells of bytes. -/
def vals (zs : List Int) : List Value := zs.map (Value.int .u8)

theorem vals_get (zs : List Int) (i : Nat) (h : i < zs.length) : (vals zs)[i]? = some (.int .u8 (zs.getD i 0)) := by
  simp [vals, List.getD_eq_getElem?_getD, h]
theorem vals_set (zs : List Int) (i : Nat) (x : Int) : (vals zs).set i (.int .u8 x) = vals (zs.set i x) := by simp [vals, List.map_set]
theorem length_vals (zs : List Int) : (vals zs).length = zs.length := by simp [vals]
theorem vals_one (zs : List Int) : ∀ v ∈ vals zs, v.oneCell' = true := by
  intro v hv
  simp [vals] at hv
  obtain ⟨x, _, rfl⟩ := hv
  rfl

theorem isBytes_nil (w : World) : IsBytes w (.slice none 0 0) [] := ⟨none, 0, rfl, by simp, by simp, by intro i; simp, fun h => by simp at h⟩

theorem isBytes_own {w : World} {g : Nat} {zs : List Int} (h : OwnRow w g 5 (vals zs)) (hz : Bytes zs) (hl : zs.length ≤ 140737488351232) : IsBytes w (.slice (some ⟨g, 0, none⟩) zs.length zs.length) zs :=
  ⟨_, zs.length, rfl, Nat.le_refl _, hl, hz, fun _ => ⟨g, 0, rfl, fun i hi => by rw [Nat.zero_add, h.cell]; exact vals_get zs i hi⟩⟩

theorem isBytes_row {w : World} {a : Addr} {len cap : Nat} {zs : List Int} (hl : len ≤ cap) (hr : cap ≤ 140737488351232) (hz : zs.length = cap)
    (hcell : ∀ i, i < zs.length → w.cell? (a.add i) = some (.int .u8 (zs.getD i 0))) (hwz : ∀ n ∈ zs, (Lit.int .u8 n).wf = true) : IsBytes w (.slice (some a) len cap) (zs.take len) := by
  have hlen : (zs.take len).length = len := by simp; omega
  refine ⟨some a, cap, by rw [hlen], by omega, by omega, fun i => ?_, fun hp => ?_⟩
  · by_cases hi : i < (zs.take len).length
    · have hm : (zs.take len).getD i 0 ∈ zs := by
        rw [List.getD_eq_getElem?_getD, List.getElem?_eq_getElem hi]
        exact List.mem_of_mem_take (List.getElem_mem hi)
      exact bounds_u8 (hwz _ hm)
    · rw [List.getD_eq_getElem?_getD, List.getElem?_eq_none (by omega)]; simp
  · obtain ⟨b, off, spot⟩ := a
    have hc := hcell 0 (by omega)
    have hspot : spot = none := by simpa [Addr.add] using World.cell?_spot hc
    subst hspot
    refine ⟨b, off, rfl, fun i hi => ?_⟩
    have := hcell i (by omega)
    rw [add_none] at this
    rw [this]
    simp [List.getD_eq_getElem?_getD, show i < len by omega]

theorem vals_snoc (zs : List Int) (x : Int) : vals (zs ++ [x]) = vals zs ++ [.int .u8 x] := by simp [vals]

theorem isBytes_owns {w : World} {base : Nat} {v : Value} {zs : List Int} (h : w.ownsRow base 5 1 v zs.length (vals zs)) (hz : Bytes zs) (hl : zs.length ≤ 140737488351232) : IsBytes w v zs := by
  rcases h.2 with ⟨rfl, h0⟩ | ⟨g, cap, cur, rfl, _, hg, hn, _, _, htake⟩
  · obtain rfl : zs = [] := by simpa using h0
    exact isBytes_nil w
  · refine ⟨_, cap, rfl, hn, hl, hz, fun _ => ⟨g, 0, rfl, fun i hi => ?_⟩⟩
    have := h.cells (g := g) rfl i _ (vals_get zs i hi)
    rw [add_none] at this
    exact this

theorem str_of {w : World} {v : Value} {zs : List Int} (h : IsBytes w v zs) : (convert 51 9 v).run Try.prog w = .ok (.string (strOfNums zs)) w := by
  obtain ⟨a, cap, rfl, h1, h2, h3, h4⟩ := h
  by_cases h0 : 0 < zs.length
  · obtain ⟨b, off, rfl, hc⟩ := h4 h0
    exact run_convert_bytes_arg w 51 5 Try.underlying51 Try.underlying5 b off zs.length cap zs rfl hc 9 Try.underlying9
  · obtain rfl : zs = [] := List.eq_nil_of_length_eq_zero (by omega)
    cases a with
    | none => exact run_convert_bytes_nil w 51 5 Try.underlying51 Try.underlying5 0 cap 9 Try.underlying9
    | some ad =>
      rw [run_convert_bytes_string w 51 9 5 _ _ _ Try.underlying51 Try.underlying5 Try.underlying9]
      have hl := run_loadCells_list (P := Try.prog) w ad [] (fun j v hj => by simp at hj)
      exact run_bytesToString w ad 0 cap [] hl

theorem zero_gen {w : World} {g : Nat} (m : Nat) (h : w.heap[g]? = some (.cells (madeCells #[.int .u8 0] m) 5)) (hm : m ≤ 140737488351232) : IsBytes w (.slice (some ⟨g, 0, none⟩) m m) (List.replicate m 0) := by
  have hl : (List.replicate m (0 : Int)).length = m := List.length_replicate
  have hr : madeCells #[.int .u8 0] m = (vals (List.replicate m 0)).toArray := by
    unfold vals
    rw [List.map_replicate, ← toList_madeCells_one]
  have ho : OwnRow w g 5 (vals (List.replicate m 0)) := by unfold OwnRow; rw [h, hr]
  have := isBytes_own ho (by
    intro i
    rw [List.getD_eq_getElem?_getD, List.getElem?_replicate]
    split <;> simp) (by omega)
  rw [hl] at this
  exact this

end Go.Proofs.Ytbiipnojhjhejaa

/- The contracts of keys.First, keys.isTaken, keys.Set and keys.Free over the loaded program: what each call returns, and that nothing that was there is written. -/
import Derived.Test.YtlhmfbkpmfofiaiRows
import Derived.Test.YtlhmfbkpmfofiaiKit
import Derived.WalkKit
import Derived.WalkLawsBesides
import Derived.WalkSpells
import Derived.Below
import Derived.OpenShut
import Derived.Laws.Rows
import Derived.Laws.Tables
import Derived.Test.YtlhmfbkpmfofiaiCalm
import Derived.Test.YtlhmfbkpmfofiaiJCheck
import Derived.Test.YtlhmfbkpmfofiaiJMath
namespace Go.Proofs.Ytlhmfbkpmfofiai
set_option maxRecDepth 100000
open Go.RowKit
set_option linter.unusedSimpArgs false
set_option linter.unusedVariables false

/-- Four keys as one value. -/
abbrev kv (l : K8) : Value := keysV l.1 l.2.1 l.2.2.1 l.2.2.2.1 l.2.2.2.2.1 l.2.2.2.2.2.1 l.2.2.2.2.2.2.1 l.2.2.2.2.2.2.2

/-- The eight cells of a row. -/
theorem OwnRow.eight {w : World} {g : Nat} {e : TypeId} {a b c d a' b' c' d' : Value} (h : OwnRow w g e [a, b, c, d, a', b', c', d']) :
    (w.cell? ⟨g, 0, none⟩ = some a ∧ w.cell? ⟨g, 1, none⟩ = some b ∧ w.cell? ⟨g, 2, none⟩ = some c ∧ w.cell? ⟨g, 3, none⟩ = some d) ∧
    (w.cell? ⟨g, 4, none⟩ = some a' ∧ w.cell? ⟨g, 5, none⟩ = some b' ∧ w.cell? ⟨g, 6, none⟩ = some c' ∧ w.cell? ⟨g, 7, none⟩ = some d') :=
  ⟨⟨by rw [h.cell]; rfl, by rw [h.cell]; rfl, by rw [h.cell]; rfl, by rw [h.cell]; rfl⟩, ⟨by rw [h.cell]; rfl, by rw [h.cell]; rfl, by rw [h.cell]; rfl, by rw [h.cell]; rfl⟩⟩

/-- A whole row of eight cells is written. -/
theorem row8_set {w : World} {g : Nat} {e : TypeId} {x0 x1 x2 x3 x4 x5 x6 x7 : Value} (ho : OwnRow w g e [x0, x1, x2, x3, x4, x5, x6, x7]) (y0 y1 y2 y3 y4 y5 y6 y7 : Value) :
    OwnRow ((((((((w.setCell ⟨g, 0, none⟩ y0).setCell ⟨g, 1, none⟩ y1).setCell ⟨g, 2, none⟩ y2).setCell ⟨g, 3, none⟩ y3).setCell ⟨g, 4, none⟩ y4).setCell ⟨g, 5, none⟩ y5).setCell ⟨g, 6, none⟩ y6).setCell ⟨g, 7, none⟩ y7) g e [y0, y1, y2, y3, y4, y5, y6, y7] :=
  (((((((ho.set 0 y0).set 1 y1).set 2 y2).set 3 y3).set 4 y4).set 5 y5).set 6 y6).set 7 y7

theorem below8_set {B g : Nat} {v w : World} (hb : Below B v w) (hg : B ≤ g) (y0 y1 y2 y3 y4 y5 y6 y7 : Value) : Below B v ((((((((w.setCell ⟨g, 0, none⟩ y0).setCell ⟨g, 1, none⟩ y1).setCell ⟨g, 2, none⟩ y2).setCell ⟨g, 3, none⟩ y3).setCell ⟨g, 4, none⟩ y4).setCell ⟨g, 5, none⟩ y5).setCell ⟨g, 6, none⟩ y6).setCell ⟨g, 7, none⟩ y7) :=
  Below.setCell (Below.setCell (Below.setCell (Below.setCell (Below.setCell (Below.setCell (Below.setCell (Below.setCell hb hg y0) hg y1) hg y2) hg y3) hg y4) hg y5) hg y6) hg y7

theorem OwnRow.beside {w : World} {g b i : Nat} {e : TypeId} {xs : List Value} (h : OwnRow w g e xs) (hne : g ≠ b) (v : Value) : OwnRow (w.setCell ⟨b, i, none⟩ v) g e xs := by
  unfold OwnRow at *
  simp only [World.setCell, Array.getElem?_modify]
  rw [if_neg (fun h => hne h.symm)]
  exact h

theorem info_keys : (Try.prog.info? 30).map (·.size) = some 8 := by kernel_rfl

theorem load8 {W : World} {g : Nat} {e : TypeId} {y0 y1 y2 y3 y4 y5 y6 y7 : Value} (h : OwnRow W g e [y0, y1, y2, y3, y4, y5, y6, y7]) : (loadVar 30 ⟨g, 0, none⟩).run Try.prog W = .ok (.agg #[y0, y1, y2, y3, y4, y5, y6, y7]) W :=
  run_loadVar_row W g e _ #[y0, y1, y2, y3, y4, y5, y6, y7] (0, 0) _ h Try.underlying30 rfl info_keys

/-- A variable's value and another one, or two, as they are returned. -/
theorem results_cell_tmp {P : Program} {fn : Func} {p q : Tmp} {ty : TypeId} (h : fn.results = #[.cell p ty, .tmp q]) (tmps : Array Value) (w : World) (A : Addr) (X Y : Value)
    (hp : tmps.getD p undef = .pointer (some A)) (hq : tmps.getD q undef = Y) (hl : (loadVar ty A).run P w = .ok X w) : (results fn tmps).run P w = .ok (.tuple #[X, Y]) w := by
  have hp' : tmps[p]?.getD undef = .pointer (some A) := by simpa using hp
  have hq' : tmps[q]?.getD undef = Y := by simpa using hq
  simp [results, h, hp', hq', asAddr, hl]

theorem results_cell_tmps {P : Program} {fn : Func} {p q r : Tmp} {ty : TypeId} (h : fn.results = #[.cell p ty, .tmp q, .tmp r]) (tmps : Array Value) (w : World) (A : Addr) (X Y Z : Value)
    (hp : tmps.getD p undef = .pointer (some A)) (hq : tmps.getD q undef = Y) (hr : tmps.getD r undef = Z) (hl : (loadVar ty A).run P w = .ok X w) : (results fn tmps).run P w = .ok (.tuple #[X, Y, Z]) w := by
  have hp' : tmps[p]?.getD undef = .pointer (some A) := by simpa using hp
  have hq' : tmps[q]?.getD undef = Y := by simpa using hq
  have hr' : tmps[r]?.getD undef = Z := by simpa using hr
  simp [results, h, hp', hq', hr', asAddr, hl]

set_option maxHeartbeats 400000 in
theorem first_any (w : World) :
    Calls Try.prog 17 #[] w fun e w' => e = .returned (keysV true 0 false 0 false 0 false 0) ∧ Below w.heap.size w w' := by
  go_enter Try.func17, Try.ntmps17
  go_wp2
  exact bodyPost_ret (v := keysV true 0 false 0 false 0 false 0) (by simp [results, Try.results17, go_sem]) rfl ⟨rfl, (Below.refl _ _).alloc (Nat.le_refl _) _⟩

set_option maxHeartbeats 800000 in
theorem isTaken_any (l : K8) (k : Int) (w : World) :
    Calls Try.prog 74 #[kv l, .int .i64 k] w fun e w' => e = .returned (.bool (tk l k)) ∧ Below w.heap.size w w' := by
  obtain ⟨t0, d0, t1, d1, t2, d2, t3, d3⟩ := l
  have hbe : Hid (∀ o, Below w.heap.size w (w.alloc o)) := fun o => (Below.refl _ _).alloc (Nat.le_refl _) _
  by_cases h0 : k < 0
  · have hw : tk (t0, d0, t1, d1, t2, d2, t3, d3) k = false := tk_out (Or.inl h0)
    rw [hw]
    clear hw
    go_enter Try.func74, Try.ntmps74
    go_wp2
    go_ret
    exact ⟨rfl, hbe.out _⟩
  by_cases h3 : 3 < k
  · have hw : tk (t0, d0, t1, d1, t2, d2, t3, d3) k = false := tk_out (Or.inr h3)
    rw [hw]
    clear hw
    go_enter Try.func74, Try.ntmps74
    go_wp2
    go_ret
    exact ⟨rfl, hbe.out _⟩
  have hk : k = 0 ∨ k = 1 ∨ k = 2 ∨ k = 3 := by omega
  clear h0 h3
  rcases hk with rfl | rfl | rfl | rfl
  all_goals
    go_enter Try.func74, Try.ntmps74
    go_wp2
    go_ret
    exact ⟨rfl, hbe.out _⟩

/-- Keys and an error, as they are returned. -/
abbrev keV (l : K8) (e : Int) : Value := .tuple #[kv l, .int .i64 e]

set_option maxHeartbeats 1600000 in
theorem set_any (l : K8) (k d : Int) (w : World) :
    Calls Try.prog 62 #[kv l, .int .i64 k, .int .i64 d] w fun e w' => e = .returned (keV (stL l k d) (stE l k d)) ∧ Below w.heap.size w w' := by
  have HT : Hid (∀ w1, Calls Try.prog 74 #[kv l, .int .i64 k] w1 fun e w' => e = .returned (.bool (tk l k)) ∧ Below w1.heap.size w1 w') := fun w1 => isTaken_any l k w1
  cases ht : tk l k
  · have h1 : stE l k d = 3 := by simp [stE, ht]
    rw [stL_no (by rw [h1]; decide), h1]
    clear h1
    rw [ht] at HT
    clear ht
    obtain ⟨t0, d0, t1, d1, t2, d2, t3, d3⟩ := l
    go_enter Try.func62, Try.ntmps62
    go_wp2_with fail
    refine (HT.out _).mono ?_
    rintro e w1 ⟨rfl, hb1⟩
    obtain ⟨ho1, ho2⟩ := own_two (xs := [_, _, _, _, _, _, _, _]) (ys := [_, _, _, _, _, _, _, _]) hb1
    have hbw : Below w.heap.size w w1 := (((Below.refl _ _).alloc (Nat.le_refl _) _).alloc (by simp) _).trans (hb1.mono (by simp; omega))
    have hz : w.heap.size + 1 < w1.heap.size := ho2.lt
    clear hb1
    obtain ⟨⟨a0, a1, a2, a3⟩, ⟨a4, a5, a6, a7⟩⟩ := ho1.eight
    obtain ⟨⟨b0, b1, b2, b3⟩, ⟨b4, b5, b6, b7⟩⟩ := ho2.eight
    have f0 := ho1.free
    have f1 := ho2.free
    have HO : Hid _ := ho2
    clear ho1 ho2
    go_wp2
    exact bodyPost_ret (v := keV (no8) 3) (results_cell_tmp Try.results62 _ _ _ _ _ rfl rfl (load8 (row8_set (HO.out) _ _ _ _ _ _ _ _))) rfl ⟨rfl, below8_set (hbw) (by simp) _ _ _ _ _ _ _ _⟩
  by_cases hd : d < 0 ∨ 3 < d
  · have h1 : stE l k d = 2 := by simp [stE, ht, hd]
    rw [stL_no (by rw [h1]; decide), h1]
    clear h1
    rw [ht] at HT
    clear ht
    obtain ⟨t0, d0, t1, d1, t2, d2, t3, d3⟩ := l
    rcases hd with hd | hd
    · go_enter Try.func62, Try.ntmps62
      go_wp2_with fail
      refine (HT.out _).mono ?_
      rintro e w1 ⟨rfl, hb1⟩
      obtain ⟨ho1, ho2⟩ := own_two (xs := [_, _, _, _, _, _, _, _]) (ys := [_, _, _, _, _, _, _, _]) hb1
      have hbw : Below w.heap.size w w1 := (((Below.refl _ _).alloc (Nat.le_refl _) _).alloc (by simp) _).trans (hb1.mono (by simp; omega))
      have hz : w.heap.size + 1 < w1.heap.size := ho2.lt
      clear hb1
      obtain ⟨⟨a0, a1, a2, a3⟩, ⟨a4, a5, a6, a7⟩⟩ := ho1.eight
      obtain ⟨⟨b0, b1, b2, b3⟩, ⟨b4, b5, b6, b7⟩⟩ := ho2.eight
      have f0 := ho1.free
      have f1 := ho2.free
      have HO : Hid _ := ho2
      clear ho1 ho2
      go_wp2
      exact bodyPost_ret (v := keV (no8) 2) (results_cell_tmp Try.results62 _ _ _ _ _ rfl rfl (load8 (row8_set (HO.out) _ _ _ _ _ _ _ _))) rfl ⟨rfl, below8_set (hbw) (by simp) _ _ _ _ _ _ _ _⟩
    · go_enter Try.func62, Try.ntmps62
      go_wp2_with fail
      refine (HT.out _).mono ?_
      rintro e w1 ⟨rfl, hb1⟩
      obtain ⟨ho1, ho2⟩ := own_two (xs := [_, _, _, _, _, _, _, _]) (ys := [_, _, _, _, _, _, _, _]) hb1
      have hbw : Below w.heap.size w w1 := (((Below.refl _ _).alloc (Nat.le_refl _) _).alloc (by simp) _).trans (hb1.mono (by simp; omega))
      have hz : w.heap.size + 1 < w1.heap.size := ho2.lt
      clear hb1
      obtain ⟨⟨a0, a1, a2, a3⟩, ⟨a4, a5, a6, a7⟩⟩ := ho1.eight
      obtain ⟨⟨b0, b1, b2, b3⟩, ⟨b4, b5, b6, b7⟩⟩ := ho2.eight
      have f0 := ho1.free
      have f1 := ho2.free
      have HO : Hid _ := ho2
      clear ho1 ho2
      go_wp2
      exact bodyPost_ret (v := keV (no8) 2) (results_cell_tmp Try.results62 _ _ _ _ _ rfl rfl (load8 (row8_set (HO.out) _ _ _ _ _ _ _ _))) rfl ⟨rfl, below8_set (hbw) (by simp) _ _ _ _ _ _ _ _⟩
  · have h1 : stE l k d = 0 := stE_zero.2 ⟨ht, hd⟩
    rw [stL_ok h1, h1]
    clear h1
    rw [ht] at HT
    obtain ⟨hd0, hd3⟩ : 0 ≤ d ∧ d ≤ 3 := by omega
    clear hd
    have hk := tk_key ht
    obtain ⟨t0, d0, t1, d1, t2, d2, t3, d3⟩ := l
    rcases hk with rfl | rfl | rfl | rfl
    · obtain rfl : t0 = true := by simpa [tk] using ht
      clear ht
      rw [put_0]
      go_enter Try.func62, Try.ntmps62
      go_wp2_with fail
      refine (HT.out _).mono ?_
      rintro e w1 ⟨rfl, hb1⟩
      obtain ⟨ho1, ho2⟩ := own_two (xs := [_, _, _, _, _, _, _, _]) (ys := [_, _, _, _, _, _, _, _]) hb1
      have hbw : Below w.heap.size w w1 := (((Below.refl _ _).alloc (Nat.le_refl _) _).alloc (by simp) _).trans (hb1.mono (by simp; omega))
      have hz : w.heap.size + 1 < w1.heap.size := ho2.lt
      clear hb1
      obtain ⟨⟨a0, a1, a2, a3⟩, ⟨a4, a5, a6, a7⟩⟩ := ho1.eight
      obtain ⟨⟨b0, b1, b2, b3⟩, ⟨b4, b5, b6, b7⟩⟩ := ho2.eight
      have f0 := ho1.free
      have f1 := ho2.free
      have HO : Hid _ := ho2
      clear ho1 ho2
      go_wp2
      exact bodyPost_ret (v := keV (true, d, t1, d1, t2, d2, t3, d3) 0) (results_cell_tmp Try.results62 _ _ _ _ _ rfl rfl (load8 (row8_set (OwnRow.beside HO.out (by omega) _) _ _ _ _ _ _ _ _))) rfl ⟨rfl, below8_set (hbw.setCell (by simp) _) (by simp) _ _ _ _ _ _ _ _⟩
    · obtain rfl : t1 = true := by simpa [tk] using ht
      clear ht
      rw [put_1]
      go_enter Try.func62, Try.ntmps62
      go_wp2_with fail
      refine (HT.out _).mono ?_
      rintro e w1 ⟨rfl, hb1⟩
      obtain ⟨ho1, ho2⟩ := own_two (xs := [_, _, _, _, _, _, _, _]) (ys := [_, _, _, _, _, _, _, _]) hb1
      have hbw : Below w.heap.size w w1 := (((Below.refl _ _).alloc (Nat.le_refl _) _).alloc (by simp) _).trans (hb1.mono (by simp; omega))
      have hz : w.heap.size + 1 < w1.heap.size := ho2.lt
      clear hb1
      obtain ⟨⟨a0, a1, a2, a3⟩, ⟨a4, a5, a6, a7⟩⟩ := ho1.eight
      obtain ⟨⟨b0, b1, b2, b3⟩, ⟨b4, b5, b6, b7⟩⟩ := ho2.eight
      have f0 := ho1.free
      have f1 := ho2.free
      have HO : Hid _ := ho2
      clear ho1 ho2
      go_wp2
      exact bodyPost_ret (v := keV (t0, d0, true, d, t2, d2, t3, d3) 0) (results_cell_tmp Try.results62 _ _ _ _ _ rfl rfl (load8 (row8_set (OwnRow.beside HO.out (by omega) _) _ _ _ _ _ _ _ _))) rfl ⟨rfl, below8_set (hbw.setCell (by simp) _) (by simp) _ _ _ _ _ _ _ _⟩
    · obtain rfl : t2 = true := by simpa [tk] using ht
      clear ht
      rw [put_2]
      go_enter Try.func62, Try.ntmps62
      go_wp2_with fail
      refine (HT.out _).mono ?_
      rintro e w1 ⟨rfl, hb1⟩
      obtain ⟨ho1, ho2⟩ := own_two (xs := [_, _, _, _, _, _, _, _]) (ys := [_, _, _, _, _, _, _, _]) hb1
      have hbw : Below w.heap.size w w1 := (((Below.refl _ _).alloc (Nat.le_refl _) _).alloc (by simp) _).trans (hb1.mono (by simp; omega))
      have hz : w.heap.size + 1 < w1.heap.size := ho2.lt
      clear hb1
      obtain ⟨⟨a0, a1, a2, a3⟩, ⟨a4, a5, a6, a7⟩⟩ := ho1.eight
      obtain ⟨⟨b0, b1, b2, b3⟩, ⟨b4, b5, b6, b7⟩⟩ := ho2.eight
      have f0 := ho1.free
      have f1 := ho2.free
      have HO : Hid _ := ho2
      clear ho1 ho2
      go_wp2
      exact bodyPost_ret (v := keV (t0, d0, t1, d1, true, d, t3, d3) 0) (results_cell_tmp Try.results62 _ _ _ _ _ rfl rfl (load8 (row8_set (OwnRow.beside HO.out (by omega) _) _ _ _ _ _ _ _ _))) rfl ⟨rfl, below8_set (hbw.setCell (by simp) _) (by simp) _ _ _ _ _ _ _ _⟩
    · obtain rfl : t3 = true := by simpa [tk] using ht
      clear ht
      rw [put_3]
      go_enter Try.func62, Try.ntmps62
      go_wp2_with fail
      refine (HT.out _).mono ?_
      rintro e w1 ⟨rfl, hb1⟩
      obtain ⟨ho1, ho2⟩ := own_two (xs := [_, _, _, _, _, _, _, _]) (ys := [_, _, _, _, _, _, _, _]) hb1
      have hbw : Below w.heap.size w w1 := (((Below.refl _ _).alloc (Nat.le_refl _) _).alloc (by simp) _).trans (hb1.mono (by simp; omega))
      have hz : w.heap.size + 1 < w1.heap.size := ho2.lt
      clear hb1
      obtain ⟨⟨a0, a1, a2, a3⟩, ⟨a4, a5, a6, a7⟩⟩ := ho1.eight
      obtain ⟨⟨b0, b1, b2, b3⟩, ⟨b4, b5, b6, b7⟩⟩ := ho2.eight
      have f0 := ho1.free
      have f1 := ho2.free
      have HO : Hid _ := ho2
      clear ho1 ho2
      go_wp2
      exact bodyPost_ret (v := keV (t0, d0, t1, d1, t2, d2, true, d) 0) (results_cell_tmp Try.results62 _ _ _ _ _ rfl rfl (load8 (row8_set (OwnRow.beside HO.out (by omega) _) _ _ _ _ _ _ _ _))) rfl ⟨rfl, below8_set (hbw.setCell (by simp) _) (by simp) _ _ _ _ _ _ _ _⟩

set_option maxHeartbeats 1600000 in
theorem free_any (l : K8) (k : Int) (w : World) :
    Calls Try.prog 59 #[kv l, .int .i64 k] w fun e w' => e = .returned (keV (frL l k) (frE l k)) ∧ Below w.heap.size w w' := by
  have HT : Hid (∀ w1, Calls Try.prog 74 #[kv l, .int .i64 k] w1 fun e w' => e = .returned (.bool (tk l k)) ∧ Below w1.heap.size w1 w') := fun w1 => isTaken_any l k w1
  by_cases hk0 : k = 0
  · have h1 : frL l k = no8 ∧ frE l k = 3 := by simp [frL, frE, hk0]
    rw [h1.1, h1.2]
    clear h1 HT
    subst hk0
    obtain ⟨t0, d0, t1, d1, t2, d2, t3, d3⟩ := l
    go_enter Try.func59, Try.ntmps59
    go_wp2
    exact bodyPost_ret (v := keV no8 3) (results_cell_tmp Try.results59 _ _ _ _ _ rfl rfl (load8 (own_two (xs := [_, _, _, _, _, _, _, _]) (ys := [_, _, _, _, _, _, _, _]) (Below.refl _ _)).2)) rfl ⟨rfl, ((Below.refl _ _).alloc (Nat.le_refl _) _).alloc (by simp) _⟩
  cases ht : tk l k
  · have h1 : frL l k = no8 ∧ frE l k = 3 := by simp [frL, frE, ht]
    rw [h1.1, h1.2]
    clear h1
    rw [ht] at HT
    clear ht
    obtain ⟨t0, d0, t1, d1, t2, d2, t3, d3⟩ := l
    go_enter Try.func59, Try.ntmps59
    go_wp2_with fail
    refine (HT.out _).mono ?_
    rintro e w1 ⟨rfl, hb1⟩
    obtain ⟨ho1, ho2⟩ := own_two (xs := [_, _, _, _, _, _, _, _]) (ys := [_, _, _, _, _, _, _, _]) hb1
    have hbw : Below w.heap.size w w1 := (((Below.refl _ _).alloc (Nat.le_refl _) _).alloc (by simp) _).trans (hb1.mono (by simp; omega))
    have hz : w.heap.size + 1 < w1.heap.size := ho2.lt
    clear hb1
    obtain ⟨⟨a0, a1, a2, a3⟩, ⟨a4, a5, a6, a7⟩⟩ := ho1.eight
    obtain ⟨⟨b0, b1, b2, b3⟩, ⟨b4, b5, b6, b7⟩⟩ := ho2.eight
    have f0 := ho1.free
    have f1 := ho2.free
    have HO : Hid _ := ho2
    clear ho1 ho2
    go_wp2
    exact bodyPost_ret (v := keV (no8) 3) (results_cell_tmp Try.results59 _ _ _ _ _ rfl rfl (load8 (row8_set (HO.out) _ _ _ _ _ _ _ _))) rfl ⟨rfl, below8_set (hbw) (by simp) _ _ _ _ _ _ _ _⟩
  · have h1 : frL l k = put l k false 0 ∧ frE l k = 0 := by simp [frL, frE, ht, hk0]
    rw [h1.1, h1.2]
    clear h1
    rw [ht] at HT
    have hk := tk_key ht
    clear ht
    obtain ⟨t0, d0, t1, d1, t2, d2, t3, d3⟩ := l
    rcases hk with rfl | rfl | rfl | rfl
    · exact absurd rfl hk0
    · rw [put_1]
      clear hk0
      go_enter Try.func59, Try.ntmps59
      go_wp2_with fail
      refine (HT.out _).mono ?_
      rintro e w1 ⟨rfl, hb1⟩
      obtain ⟨ho1, ho2⟩ := own_two (xs := [_, _, _, _, _, _, _, _]) (ys := [_, _, _, _, _, _, _, _]) hb1
      have hbw : Below w.heap.size w w1 := (((Below.refl _ _).alloc (Nat.le_refl _) _).alloc (by simp) _).trans (hb1.mono (by simp; omega))
      have hz : w.heap.size + 1 < w1.heap.size := ho2.lt
      clear hb1
      obtain ⟨⟨a0, a1, a2, a3⟩, ⟨a4, a5, a6, a7⟩⟩ := ho1.eight
      obtain ⟨⟨b0, b1, b2, b3⟩, ⟨b4, b5, b6, b7⟩⟩ := ho2.eight
      have f0 := ho1.free
      have f1 := ho2.free
      have HO : Hid _ := ho2
      clear ho1 ho2
      go_wp2
      exact bodyPost_ret (v := keV (t0, d0, false, 0, t2, d2, t3, d3) 0) (results_cell_tmp Try.results59 _ _ _ _ _ rfl rfl (load8 (row8_set (OwnRow.beside (OwnRow.beside HO.out (by omega) _) (by omega) _) _ _ _ _ _ _ _ _))) rfl ⟨rfl, below8_set ((hbw.setCell (by simp) _).setCell (by simp) _) (by simp) _ _ _ _ _ _ _ _⟩
    · rw [put_2]
      clear hk0
      go_enter Try.func59, Try.ntmps59
      go_wp2_with fail
      refine (HT.out _).mono ?_
      rintro e w1 ⟨rfl, hb1⟩
      obtain ⟨ho1, ho2⟩ := own_two (xs := [_, _, _, _, _, _, _, _]) (ys := [_, _, _, _, _, _, _, _]) hb1
      have hbw : Below w.heap.size w w1 := (((Below.refl _ _).alloc (Nat.le_refl _) _).alloc (by simp) _).trans (hb1.mono (by simp; omega))
      have hz : w.heap.size + 1 < w1.heap.size := ho2.lt
      clear hb1
      obtain ⟨⟨a0, a1, a2, a3⟩, ⟨a4, a5, a6, a7⟩⟩ := ho1.eight
      obtain ⟨⟨b0, b1, b2, b3⟩, ⟨b4, b5, b6, b7⟩⟩ := ho2.eight
      have f0 := ho1.free
      have f1 := ho2.free
      have HO : Hid _ := ho2
      clear ho1 ho2
      go_wp2
      exact bodyPost_ret (v := keV (t0, d0, t1, d1, false, 0, t3, d3) 0) (results_cell_tmp Try.results59 _ _ _ _ _ rfl rfl (load8 (row8_set (OwnRow.beside (OwnRow.beside HO.out (by omega) _) (by omega) _) _ _ _ _ _ _ _ _))) rfl ⟨rfl, below8_set ((hbw.setCell (by simp) _).setCell (by simp) _) (by simp) _ _ _ _ _ _ _ _⟩
    · rw [put_3]
      clear hk0
      go_enter Try.func59, Try.ntmps59
      go_wp2_with fail
      refine (HT.out _).mono ?_
      rintro e w1 ⟨rfl, hb1⟩
      obtain ⟨ho1, ho2⟩ := own_two (xs := [_, _, _, _, _, _, _, _]) (ys := [_, _, _, _, _, _, _, _]) hb1
      have hbw : Below w.heap.size w w1 := (((Below.refl _ _).alloc (Nat.le_refl _) _).alloc (by simp) _).trans (hb1.mono (by simp; omega))
      have hz : w.heap.size + 1 < w1.heap.size := ho2.lt
      clear hb1
      obtain ⟨⟨a0, a1, a2, a3⟩, ⟨a4, a5, a6, a7⟩⟩ := ho1.eight
      obtain ⟨⟨b0, b1, b2, b3⟩, ⟨b4, b5, b6, b7⟩⟩ := ho2.eight
      have f0 := ho1.free
      have f1 := ho2.free
      have HO : Hid _ := ho2
      clear ho1 ho2
      go_wp2
      exact bodyPost_ret (v := keV (t0, d0, t1, d1, t2, d2, false, 0) 0) (results_cell_tmp Try.results59 _ _ _ _ _ rfl rfl (load8 (row8_set (OwnRow.beside (OwnRow.beside HO.out (by omega) _) (by omega) _) _ _ _ _ _ _ _ _))) rfl ⟨rfl, below8_set ((hbw.setCell (by simp) _).setCell (by simp) _) (by simp) _ _ _ _ _ _ _ _⟩

end Go.Proofs.Ytlhmfbkpmfofiai

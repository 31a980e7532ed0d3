/- Slices of api.Page as lists: a page is a number, a slice of bytes and a slice of ints; what reads as them, what the call itself has made (Slots' text, at another type). -/
import Derived.Test.YtbiipnojhjhejaaRows
import Derived.WalkKit
import Derived.WalkLawsBesides
import Derived.WalkSpells
import Derived.Below
import Derived.OpenShut
import Derived.Test.YtbiipnojhjhejaaJKeys
import Derived.Test.YtbiipnojhjhejaaCalm
import Derived.Test.YtbiipnojhjhejaaIntRecs
namespace Go.Proofs.Ytbiipnojhjhejaa
set_option maxRecDepth 100000
open Go.RowKit
set_option linter.unusedSimpArgs false
set_option linter.unusedVariables false

/-- A page: its number, its bytes, its tags. -/
abbrev Sl := Int × List Int × List Int
def z0 : Sl := (0, [], [])

/-- A slice's own cell. -/
abbrev H3 := Option Addr × Nat × Nat
def hdr (h : H3) : Value := .slice h.1 h.2.1 h.2.2

/-- A slot as it stands in memory. -/
abbrev V3 := Int × H3 × H3
def v0 : V3 := (0, (none, 0, 0), (none, 0, 0))
def encS (x : V3) : List Value := [.int .i64 x.1, .slice x.2.1.1 x.2.1.2.1 x.2.1.2.2, .slice x.2.2.1 x.2.2.2.1 x.2.2.2.2]

theorem shS : Shape V3 3 encS := ⟨fun _ => rfl, fun x v hv => by
  simp only [encS, List.mem_cons, List.not_mem_nil, or_false] at hv
  rcases hv with rfl | rfl | rfl <;> rfl, by decide⟩

theorem info_slot : (Try.prog.info? 54).map (fun i => (i.zero, i.size, i.bytes)) = some (some (.agg #[.int .i64 0, .slice none 0 0, .slice none 0 0]), 3, 56) := by kernel_rfl

/-- The slot in memory x reads as y. -/
def Rd (w : World) (x : V3) (y : Sl) : Prop := x.1 = y.1 ∧ IsBytes w (hdr x.2.1) y.2.1 ∧ IsRecs encI 17592186043904 w (hdr x.2.2) y.2.2

theorem Rd.below {w w' : World} {x : V3} {y : Sl} (h : Rd w x y) (hb : Below w.heap.size w w') : Rd w' x y := ⟨h.1, h.2.1.below hb, h.2.2.below hb⟩

theorem rd_zero (w : World) : Rd w v0 z0 := ⟨rfl, isBytes_nil w, isRecs_nil _ _ _ _⟩

/-- The value v is a slice of the slots l in the world w. -/
def IsSlots (w : World) (v : Value) (l : List Sl) : Prop := ∃ L : List V3, L.length = l.length ∧ IsRecs encS 2513169434843 w v L ∧ ∀ i, i < l.length → Rd w (L.getD i v0) (l.getD i z0)

theorem IsSlots.below {w w' : World} {v : Value} {l : List Sl} (h : IsSlots w v l) (hb : Below w.heap.size w w') : IsSlots w' v l := by
  obtain ⟨L, h1, h2, h3⟩ := h
  exact ⟨L, h1, h2.below hb, fun i hi => (h3 i hi).below hb⟩

theorem IsSlots.form {w : World} {v : Value} {l : List Sl} (h : IsSlots w v l) : ∃ a cap, v = .slice a l.length cap := by
  obtain ⟨L, h1, h2, h3⟩ := h
  obtain ⟨a, cap, rfl⟩ := h2.form
  exact ⟨a, cap, by rw [h1]⟩

theorem IsSlots.len {w : World} {v : Value} {l : List Sl} (h : IsSlots w v l) : l.length ≤ 2513169434843 := by
  obtain ⟨L, h1, h2, h3⟩ := h
  rw [← h1]
  exact h2.len

theorem isSlots_nil (w : World) (a : Option Addr) (c : Nat) : IsSlots w (.slice a 0 c) [] := ⟨[], rfl, isRecs_nil _ _ _ _, fun i hi => by simp at hi⟩

/-- The three cells of an element, in a later world. -/
theorem cell3 {w wr : World} {b off : Nat} {L : List V3} (hc : ∀ j u, (flatL encS L)[j]? = some u → w.cell? ⟨b, off + j, none⟩ = some u) (hbel : Below w.heap.size w wr) (k : Nat) (hk : k < L.length) {r : Int} {ba ta : Option Addr} {bn bc tn tc : Nat} (hp : (r, (ba, bn, bc), (ta, tn, tc)) = L.getD k v0) :
    wr.cell? ⟨b, off + k * 3, none⟩ = some (.int .i64 r) ∧ wr.cell? ⟨b, off + k * 3 + 1, none⟩ = some (.slice ba bn bc) ∧ wr.cell? ⟨b, off + k * 3 + 2, none⟩ = some (.slice ta tn tc) := by
  have hcell := fun t u ht hu => recs_cell shS hc v0 k t hk ht (u := u) hu
  rw [← hp] at hcell
  exact ⟨(hbel.cell (cell_lt (hcell 0 _ (by decide) rfl))).trans (hcell 0 _ (by decide) rfl), (hbel.cell (cell_lt (hcell 1 _ (by decide) rfl))).trans (hcell 1 _ (by decide) rfl),
    (hbel.cell (cell_lt (hcell 2 _ (by decide) rfl))).trans (hcell 2 _ (by decide) rfl)⟩

theorem OwnRow.three {w : World} {g : Nat} {e : TypeId} {a b c : Value} (h : OwnRow w g e [a, b, c]) :
    (w.cell? ⟨g, 0, none⟩ = some a ∧ w.cell? ⟨g, 1, none⟩ = some b ∧ w.cell? ⟨g, 2, none⟩ = some c) ∧ w.frozen? ⟨g, 0, none⟩ = false ∧ w.frozen? ⟨g, 1, none⟩ = false ∧ w.frozen? ⟨g, 2, none⟩ = false :=
  ⟨⟨by rw [h.cell]; rfl, by rw [h.cell]; rfl, by rw [h.cell]; rfl⟩, h.free 0, h.free 1, h.free 2⟩

/-- A list of bytes of the call's own, made behind base. -/
def OwnU (base : Nat) (w : World) (v : Value) (zs : List Int) : Prop := w.ownsRow base 5 1 v zs.length (vals zs) ∧ Bytes zs ∧ zs.length ≤ 140737488351232

/-- The slot in memory x reads as y, its lists are the call's own, made behind base. -/
def Own3 (base : Nat) (w : World) (x : V3) (y : Sl) : Prop := x.1 = y.1 ∧ OwnU base w (hdr x.2.1) y.2.1 ∧ OwnR 3 1 encI base w (hdr x.2.2) y.2.2 ∧ y.2.2.length ≤ 17592186043904

theorem Own3.rd {base : Nat} {w : World} {x : V3} {y : Sl} (h : Own3 base w x y) : Rd w x y := ⟨h.1, isBytes_owns h.2.1.1 h.2.1.2.1 h.2.1.2.2, h.2.2.1.recs h.2.2.2⟩

theorem ownsRow_below {e : TypeId} {base n m : Nat} {w w' : World} {v : Value} {xs : List Value} (h : w.ownsRow base e m v n xs) (hb : Below w.heap.size w w') : w'.ownsRow base e m v n xs := by
  obtain ⟨h1, h2 | ⟨g, cap, cur, rfl, hbg, hg, hr⟩⟩ := h
  · exact ⟨h1, Or.inl h2⟩
  · exact ⟨h1, Or.inr ⟨g, cap, cur, rfl, hbg, (hb.block g (Array.getElem?_eq_some_iff.1 hg).1).trans hg, hr⟩⟩

theorem ownsRow_beside {e : TypeId} {base n m g i : Nat} {w : World} {v x : Value} {xs : List Value} (h : w.ownsRow base e m v n xs) (hg : g < base) : (w.setCell ⟨g, i, none⟩ x).ownsRow base e m v n xs := by
  obtain ⟨h1, h2 | ⟨g', cap, cur, rfl, hbg, hg', hr⟩⟩ := h
  · exact ⟨h1, Or.inl h2⟩
  · exact ⟨h1, Or.inr ⟨g', cap, cur, rfl, hbg, (Below.heap_setCell w _ x g' (by show g' ≠ g; omega)).trans hg', hr⟩⟩

theorem ownsRow_mono {e : TypeId} {base base' n m : Nat} {w : World} {v : Value} {xs : List Value} (h : w.ownsRow base e m v n xs) (hb : base' ≤ base) : w.ownsRow base' e m v n xs := by
  obtain ⟨h1, h2 | ⟨g, cap, cur, rfl, hbg, hr⟩⟩ := h
  · exact ⟨h1, Or.inl h2⟩
  · exact ⟨h1, Or.inr ⟨g, cap, cur, rfl, Nat.le_trans hb hbg, hr⟩⟩

theorem Own3.below {base : Nat} {w w' : World} {x : V3} {y : Sl} (h : Own3 base w x y) (hb : Below w.heap.size w w') : Own3 base w' x y :=
  ⟨h.1, ⟨ownsRow_below h.2.1.1 hb, h.2.1.2⟩, ownsRow_below h.2.2.1 hb, h.2.2.2⟩
theorem Own3.beside {base g i : Nat} {w : World} {v : Value} {x : V3} {y : Sl} (h : Own3 base w x y) (hg : g < base) : Own3 base (w.setCell ⟨g, i, none⟩ v) x y :=
  ⟨h.1, ⟨ownsRow_beside h.2.1.1 hg, h.2.1.2⟩, ownsRow_beside h.2.2.1 hg, h.2.2.2⟩
theorem Own3.mono {base base' : Nat} {w : World} {x : V3} {y : Sl} (h : Own3 base w x y) (hb : base' ≤ base) : Own3 base' w x y :=
  ⟨h.1, ⟨ownsRow_mono h.2.1.1 hb, h.2.1.2⟩, ownsRow_mono h.2.2.1 hb, h.2.2.2⟩

theorem ownsRow_form {e : TypeId} {base n m : Nat} {w : World} {v : Value} {xs : List Value} (h : w.ownsRow base e m v n xs) : ∃ a cap, v = .slice a n cap := by
  rcases h.2 with ⟨rfl, h0⟩ | ⟨g, cap, cur, rfl, _⟩
  · exact ⟨none, 0, by rw [h0]⟩
  · exact ⟨_, _, rfl⟩

theorem IsBytes.form' {w : World} {v : Value} {zs : List Int} (h : IsBytes w v zs) : ∃ a cap, v = .slice a zs.length cap := by
  obtain ⟨a, cap, rfl, _⟩ := h
  exact ⟨a, cap, rfl⟩

set_option maxHeartbeats 400000 in
theorem uclone_any (v : Value) (zs : List Int) (w : World) (h : IsBytes w v zs) :
    Calls Try.prog 39 #[v] w fun e w' => ∃ a c, e = .returned (.slice a zs.length c) ∧ OwnU w.heap.size w' (.slice a zs.length c) zs ∧ Below w.heap.size w w' := by
  obtain ⟨a, cap, rfl, h1, hl, hby, hc'⟩ := h
  obtain ⟨i0, hi, hz0, hz1, hz2⟩ := info_parts Try.infoU8
  have q35 : ∀ (w : World) (a : Option Addr) (n c n' c' : Nat), (binOp .eql 51 (.slice a n c) (.slice none n' c')).run Try.prog w = .ok (.bool a.isNone) w := fun w a n c n' c' => Lib.run_eql_slice_nil w _ _ a n c n' c' Try.underlying51
  cases a with
  | none =>
    by_cases hp : 0 < zs.length
    · obtain ⟨b, off, hn, -⟩ := hc' hp
      cases hn
    · obtain rfl : zs = [] := List.eq_nil_of_length_eq_zero (by omega)
      go_enter Try.func39, Try.ntmps39
      go_wp2
      go_ret
      exact ⟨_, _, rfl, ⟨⟨rfl, Or.inl ⟨rfl, rfl⟩⟩, hby, hl⟩, Below.refl _ _⟩
  | some ad =>
    have hnews : Hid (∀ (w' : World), Below w.heap.size w w' → ∀ j u, (vals zs)[j]? = some u → w'.cell? (ad.add j) = some u) := by
      intro w' hb j u hj
      have hlt : j < (vals zs).length := (List.getElem?_eq_some_iff.1 hj).1
      rw [length_vals] at hlt
      obtain ⟨b, off, hn, hc⟩ := hc' (by omega)
      cases hn
      rw [add_none]
      have := hc j hlt
      rw [vals_get zs j hlt] at hj
      rw [← hj, ← this]
      exact hb.cell (cell_lt this)
    have HBY : Hid (Bytes zs) := hby
    clear hc' hby
    go_enter Try.func39, Try.ntmps39
    go_wp2_with (at_builtin; refine wpList_append_own _ rfl _ _ 51 rfl w.heap.size 5 i0 _ 1 1 Try.underlying51 hi hz0 hz1 hz2 rfl (by decide) _ _ _ rfl (World.ownsRow_made w #[] 0 (Nat.le_refl _) (Nat.zero_le _) (by simp)) ad zs.length cap (vals zs) rfl (by rw [length_vals, Nat.mul_one]) (hnews.out _ ((Below.refl _ _).alloc (Nat.le_refl _) _)) (vals_one zs) (by unfold maxLen; omega) (by omega) (by simp) ?_; intro v' w1 hown hgrow hnil)
    have ho : w1.ownsRow w.heap.size 5 1 v' zs.length (vals zs) := by simpa using hown
    obtain ⟨a', c', rfl⟩ := ownsRow_form ho
    go_ret
    refine ⟨a', c', rfl, ⟨ho, HBY.out, hl⟩, ?_⟩
    exact ((Below.refl _ w).alloc (Nat.le_refl _) _).grown hgrow (by simp) (by intro k hk; cases hk; exact Nat.le_refl _)

set_option maxHeartbeats 400000 in
theorem iclone_any (v : Value) (l : List Int) (w : World) (h : IsRecs encI 17592186043904 w v l) :
    Calls Try.prog 40 #[v] w fun e w' => ∃ a c, e = .returned (.slice a l.length c) ∧ OwnR 3 1 encI w.heap.size w' (.slice a l.length c) l ∧ Below w.heap.size w w' := by
  obtain ⟨a, cap, rfl, h1, hl, hc'⟩ := h
  obtain ⟨i0, hi, hz0, hz1, hz2⟩ := info_parts info_int
  have q35 : ∀ (w : World) (a : Option Addr) (n c n' c' : Nat), (binOp .eql 52 (.slice a n c) (.slice none n' c')).run Try.prog w = .ok (.bool a.isNone) w := fun w a n c n' c' => Lib.run_eql_slice_nil w _ _ a n c n' c' Try.underlying52
  cases a with
  | none =>
    by_cases hp : 0 < l.length
    · obtain ⟨b, off, hn, -⟩ := hc' hp
      cases hn
    · obtain rfl : l = [] := List.eq_nil_of_length_eq_zero (by omega)
      go_enter Try.func40, Try.ntmps40
      go_wp2
      go_ret
      exact ⟨_, _, rfl, ownR_nil _ _ _, Below.refl _ _⟩
  | some ad =>
    have hnews : Hid (∀ (w' : World), Below w.heap.size w w' → ∀ j u, (flatL encI l)[j]? = some u → w'.cell? (ad.add j) = some u) := by
      intro w' hb j u hj
      have hlt : j < (flatL encI l).length := (List.getElem?_eq_some_iff.1 hj).1
      rw [flatL_len shI] at hlt
      obtain ⟨b, off, hn, hc⟩ := hc' (by omega)
      cases hn
      rw [add_none]
      have := hc j u hj
      rw [← this]
      exact hb.cell (cell_lt this)
    clear hc'
    go_enter Try.func40, Try.ntmps40
    go_wp2_with (at_builtin; refine wpList_append_own _ rfl _ _ 52 rfl w.heap.size 3 i0 _ 1 8 Try.underlying52 hi hz0 hz1 hz2 rfl (by decide) _ _ _ rfl (World.ownsRow_made w #[] 0 (Nat.le_refl _) (Nat.zero_le _) (by simp)) ad l.length cap (flatL encI l) rfl (flatL_len shI l) (hnews.out _ ((Below.refl _ _).alloc (Nat.le_refl _) _)) (flatL_ones shI l) (by unfold maxLen; omega) (by omega) (by simp) ?_; intro v' w1 hown hgrow hnil)
    have ho : OwnR 3 1 encI w.heap.size w1 v' l := by simpa [OwnR] using hown
    obtain ⟨a', c', rfl⟩ := ho.form
    go_ret
    refine ⟨a', c', rfl, ho, ?_⟩
    exact ((Below.refl _ w).alloc (Nat.le_refl _) _).grown hgrow (by simp) (by intro k hk; cases hk; exact Nat.le_refl _)

end Go.Proofs.Ytbiipnojhjhejaa

/- The walk of framewardenref.BBlocks: out of sixty-four bits the one right list whose frames they are; and framewardenref.BRight: it answers what buddy.Right answers. -/
import Derived.Test.YticmloddkngfnahBuddyRef2
import Derived.Deep.Cut
namespace Go.Proofs.Yticmloddkngfnah
open Go.RowKit
set_option linter.unusedSimpArgs false
set_option linter.unusedVariables false

theorem wrapN {o : Nat} (ho : o < 7) : wrap64 (2 ^ ((o : Int)).toNat) = ((2 ^ o : Nat) : Int) ∧ IntKind.i64.wrap (2 ^ ((o : Int)).toNat) = ((2 ^ o : Nat) : Int) := by
  rw [IntKind.wrap_i64]
  have : o = 0 ∨ o = 1 ∨ o = 2 ∨ o = 3 ∨ o = 4 ∨ o = 5 ∨ o = 6 := by omega
  rcases this with rfl | rfl | rfl | rfl | rfl | rfl | rfl <;> simp [wrap64]

theorem pow_bd {o : Nat} (ho : o < 7) : 1 ≤ 2 ^ o ∧ 2 ^ o ≤ 64 := by
  have : o = 0 ∨ o = 1 ∨ o = 2 ∨ o = 3 ∨ o = 4 ∨ o = 5 ∨ o = 6 := by omega
  rcases this with rfl | rfl | rfl | rfl | rfl | rfl | rfl <;> simp

theorem room_nat {x o : Nat} (hx : x < 64) (ho : o < 7) (h : x % 2 ^ o = 0) : x + 2 ^ o ≤ 64 := by
  have : o = 0 ∨ o = 1 ∨ o = 2 ∨ o = 3 ∨ o = 4 ∨ o = 5 ∨ o = 6 := by omega
  rcases this with rfl | rfl | rfl | rfl | rfl | rfl | rfl <;> simp at h ⊢ <;> omega

theorem wrapN2 {o : Nat} (ho : o < 7) : wrap64 (2 ^ o) = ((2 ^ o : Nat) : Int) ∧ IntKind.i64.wrap (2 ^ o) = ((2 ^ o : Nat) : Int) := by
  have := wrapN ho
  rwa [Int.toNat_natCast] at this

set_option maxRecDepth 100000 in
set_option maxHeartbeats 4000000 in
theorem bblocks_any (g : Nat) (B : Nat → Bool) (w : World) (hrow : OwnRow w g 4 (bitsL B)) :
    Calls Try.prog 24 #[.slice (some ⟨g, 0, none⟩) 64 64] w fun e w' => ∃ v' L, e = .returned v' ∧ OwnB w.heap.size w' v' L ∧ Good L ∧ (∀ t : Nat, t < 64 → (B t = true ↔ covL L t)) ∧ Below w.heap.size w w' := by
  have hgw := hrow.lt
  have HR : Hid (OwnRow w g 4 (bitsL B)) := hrow
  clear hrow
  go_enter Try.func24, Try.ntmps24
  go_wp2_with fail
  go_loopw [3, 4] (fun v i wr => ∃ (x : Nat) (L : List (Int × Int)), x ≤ 64 ∧ i = .int .i64 x ∧ OwnB w.heap.size wr v L ∧ LaidTo B x L ∧ L.length ≤ x ∧ Below w.heap.size w wr) (fun _ i _ => 64 - (intOf i).toNat)
  case atStart => exact ⟨0, [], by omega, rfl, ⟨rfl, Or.inl ⟨rfl, rfl⟩⟩, laid_start B, by simp, Below.refl _ _⟩
  case round =>
    obtain ⟨x, L, hx, rfl, hown, hlaid, hLl, hbel⟩ := hrel
    by_cases hlt : x < 64
    · have hrowr := HR.out.below hbel hgw
      have HRr : Hid (OwnRow wr g 4 (bitsL B)) := hrowr
      have HLD : Hid (LaidTo B x L) := hlaid
      have HOW : Hid (OwnB w.heap.size wr u3 L) := hown
      obtain ⟨oa, on, oc, rfl⟩ := hown.form
      clear hrowr hlaid hown
      have hdt : decide ((x : Int) < 64) = true := by simp; omega
      go_wp2_with fail
      clear hdt
      go_loop [5, 6] (fun d i => ∃ o : Nat, o ≤ 7 ∧ i = .int .i64 o ∧ d = .int .i64 (ordOf B x o)) (fun _ i => 7 - (intOf i).toNat)
      case atStart => exact ⟨0, by omega, rfl, rfl⟩
      case round =>
        obtain ⟨o, ho, rfl, rfl⟩ := hrel
        by_cases hol : o < 7
        · have hpb := pow_bd hol
          have hrm := room_nat (o := o) hlt hol
          have HS : Hid (ordOf B x (o + 1) = if cnd B x o then (o : Int) else ordOf B x o) := rfl
          have HC : Hid (cnd B x o = (decide (x % 2 ^ o = 0) && allT B x (2 ^ o))) := rfl
          obtain ⟨hw1, hw2⟩ := wrapN hol
          obtain ⟨hw3, hw4⟩ := wrapN2 hol
          obtain ⟨s, hs⟩ : ∃ s : Nat, s = 2 ^ o := ⟨_, rfl⟩
          rw [← hs] at hw1 hw2 hw3 hw4 hpb hrm HC
          have H1 : Hid _ := hw1
          have H2 : Hid _ := hw2
          have H3 : Hid _ := hw3
          have H4 : Hid _ := hw4
          clear hs hw1 hw2 hw3 hw4
          have hs0 : ¬ ((s : Int) = 0) := by omega
          have hs00 : ¬ (s = 0) := by omega
          have hol6 : (o : Int) ≤ 6 := by omega
          have htm : ((x : Int)).tmod (s : Int) = ((x % s : Nat) : Int) := by rw [Int.tmod_eq_emod_of_nonneg (by omega)]; rfl
          by_cases hmod : x % s = 0
          · have hxs := hrm hmod
            rw [hmod] at htm
            have HC2 : Hid (cnd B x o = allT B x s) := by show _ = _; rw [HC.out, hmod]; simp
            have hxle : (x : Int) ≤ (x : Int) + (s : Int) := by omega
            have hxs2 : (x : Int) + (s : Int) ≤ 64 := by omega
            have hnn : (0 : Int) ≤ (x : Int) + (s : Int) := by omega
            have htn : ((x : Int) + (s : Int)).toNat = x + s := by omega
            have hsub : x + s - x = s := by omega
            have hne : ¬ (64 = x) := by omega
            clear hrm HC
            cases hat : allT B x s with
            | true =>
              have hct : Hid (∀ cap, Calls Try.prog 40 #[.slice (some ⟨g, x, none⟩) s cap, .bool false] wr fun e w' => e = .returned (.bool false) ∧ wr = w') := fun cap => by
                have := contains_bits g x s cap B wr HRr.out hxs
                rw [hat] at this
                exact this
              have HO : Hid (ordOf B x (o + 1) = (o : Int)) := by show _ = _; rw [HS.out, HC2.out, hat]; rfl
              clear hat HC2 HS
              have hw1 := H1.out
              have hw2 := H2.out
              have hw3 := H3.out
              have hw4 := H4.out
              go_upto_region 9 with (fail)
              clear hw1 hw2 hw3 hw4
              go_wp2_with (go_at_call 40; refine (hct.out _).mono ?_; rintro e w' ⟨rfl, rfl⟩)
              go_round
              case rel => exact ⟨o + 1, by omega, by go_num, by rw [HO.out]⟩
              case measure => simp [intOf]; omega
            | false =>
              have hct : Hid (∀ cap, Calls Try.prog 40 #[.slice (some ⟨g, x, none⟩) s cap, .bool false] wr fun e w' => e = .returned (.bool true) ∧ wr = w') := fun cap => by
                have := contains_bits g x s cap B wr HRr.out hxs
                rw [hat] at this
                exact this
              have HO : Hid (ordOf B x (o + 1) = ordOf B x o) := by show _ = _; rw [HS.out, HC2.out, hat]; rfl
              clear hat HC2 HS
              have hw1 := H1.out
              have hw2 := H2.out
              have hw3 := H3.out
              have hw4 := H4.out
              go_upto_region 9 with (fail)
              clear hw1 hw2 hw3 hw4
              go_wp2_with (go_at_call 40; refine (hct.out _).mono ?_; rintro e w' ⟨rfl, rfl⟩)
              go_round
              case rel => exact ⟨o + 1, by omega, by go_num, by rw [HO.out]⟩
              case measure => simp [intOf]; omega
          · have hnd : ¬ (((x % s : Nat) : Int) = 0) := by omega
            have HO : Hid (ordOf B x (o + 1) = ordOf B x o) := by show _ = _; rw [HS.out, HC.out]; simp [hmod]
            have hbq : (((x % s : Nat) : Int) == 0) = false := by simpa using hnd
            clear HS HC hrm hmod
            have hw1 := H1.out
            have hw2 := H2.out
            have hw3 := H3.out
            have hw4 := H4.out
            go_upto_region 9 with (fail)
            clear hw1 hw2 hw3 hw4
            go_wp2
            go_round
            case rel => exact ⟨o + 1, by omega, by go_num, by rw [HO.out]⟩
            case measure => simp [intOf]; omega
        · obtain rfl : o = 7 := by omega
          rcases ordOf_spec B x 7 with ⟨s1, s2⟩ | ⟨d, s1, s2, s3, s4⟩
          · have hbx : B x = false := by
              have := s2 0 (by omega)
              unfold cnd allT at this
              simpa [Nat.mod_one] using this
            have HL : Hid (LaidTo B (x + 1) L) := laid_skip HLD.out hbx
            rw [s1]
            clear s1 s2 hbx
            go_wp2
            exact ⟨⟨x + 1, L, by omega, by go_num, HOW.out, HL.out, by omega, hbel⟩, by simp [intOf]; omega⟩
          · have hst := laid_step HLD.out hlt s1 s3 s4
            have H3 : Hid (wrap64 (2 ^ d) = ((2 ^ d : Nat) : Int)) := (wrapN2 s1).1
            have hpb := pow_bd s1
            have hd7 : d < 7 := s1
            rw [s2]
            obtain ⟨s, hs⟩ : ∃ s : Nat, s = 2 ^ d := ⟨_, rfl⟩
            rw [← hs] at hst hpb H3
            have HL : Hid (LaidTo B (x + s) (L ++ [((x : Int), (d : Int))])) := hst.1
            have hxs := hst.2
            clear hst hs s1 s2 s3 s4
            have hbA : Below wr.heap.size wr (wr.alloc (.cells #[.int .i64 (x : Int), .int .i64 (d : Int)] 45)) := (Below.refl _ _).alloc (Nat.le_refl _) _
            have HOA : Hid (OwnB w.heap.size (wr.alloc (.cells #[.int .i64 (x : Int), .int .i64 (d : Int)] 45)) (.slice oa on oc) L) := HOW.out.below hbA
            have HXA : Hid (IsBlocks (wr.alloc (.cells #[.int .i64 (x : Int), .int .i64 (d : Int)] 45)) (.slice (some ⟨wr.heap.size, 0, none⟩) 1 1) [((x : Int), (d : Int))]) := by
              refine ⟨_, _, rfl, by simp, by simp, fun _ => ⟨wr.heap.size, 0, rfl, fun i hi => ?_⟩⟩
              obtain rfl : i = 0 := by simp at hi; omega
              exact ⟨by simp, by simp⟩
            have hlenA : Hid (L.length + [((x : Int), (d : Int))].length ≤ 8000000000000) := by show _ ≤ _; simp; omega
            have hbsA : Hid (w.heap.size ≤ (wr.alloc (.cells #[.int .i64 (x : Int), .int .i64 (d : Int)] 45)).heap.size) := Nat.le_trans hbel.size hbA.size
            have hdd : ¬ ((d : Int) < 0) := by omega
            go_wp2_with (at_builtin; go_must (refine wpList_append_blks rfl _ _ rfl w.heap.size _ L rfl HOA.out _ [((x : Int), (d : Int))] rfl HXA.out hlenA.out hbsA.out ?_); intro v' w' hown' hbw')
            have hE : wrap64 ((x : Int) + wrap64 (2 ^ d)) = ((x + s : Nat) : Int) := by
              rw [H3.out]
              unfold wrap64
              omega
            rw [hE]
            exact ⟨⟨x + s, _, hxs, rfl, hown', HL.out, by rw [List.length_append]; simp only [List.length_cons, List.length_nil]; omega, (hbel.trans (hbA.mono hbel.size)).trans hbw'⟩, by simp [intOf]; omega⟩
    · obtain rfl : x = 64 := by omega
      obtain ⟨e1, e2⟩ := laid_end hlaid
      go_wp2
      go_ret
      exact ⟨_, L, rfl, hown, e1, e2, hbel⟩

/-- Two right lists with the same bits are one. -/
theorem good_bits {l m : List (Int × Int)} (hl : Good l) (hm : Good m) (h : ∀ t : Nat, t < 64 → (covL l t ↔ covL m t)) : l = m := by
  refine good_unique hl hm (fun k => ?_)
  have hin : ∀ f : List (Int × Int), Good f → covL f k → 0 ≤ k ∧ k < 64 := by
    rintro f hf ⟨p, hp, h1, h2⟩
    obtain ⟨b0, b6, bx0, bx, -⟩ := isBlk_iff.1 (hf.1 p hp)
    omega
  constructor
  · intro hc
    obtain ⟨k0, k1⟩ := hin l hl hc
    have := (h k.toNat (by omega)).1 (by rw [Int.toNat_of_nonneg k0]; exact hc)
    rwa [Int.toNat_of_nonneg k0] at this
  · intro hc
    obtain ⟨k0, k1⟩ := hin m hm hc
    have := (h k.toNat (by omega)).2 (by rw [Int.toNat_of_nonneg k0]; exact hc)
    rwa [Int.toNat_of_nonneg k0] at this

set_option maxHeartbeats 1600000 in
theorem bright_any (v : Value) (l : List (Int × Int)) (w : World) (h : IsBlocks w v l) :
    Calls Try.prog 28 #[v] w fun e w' => e = .returned (.bool (rightB l)) ∧ Below w.heap.size w w' := by
  have HI : Hid (IsBlocks w v l) := h
  clear h
  go_enter Try.func28, Try.ntmps28
  go_wp2_with fail
  refine (bfree_any v l w HI.out).mono ?_
  rintro e w1 ⟨⟨g, B, rfl, hrow, hg, hok, hB⟩ | ⟨rfl, hno⟩, hb1⟩
  · go_wp2_with fail
    refine (bblocks_any g B w1 hrow).mono ?_
    rintro e w2 ⟨v2, L, rfl, ho2, hG, hL, hb2⟩
    have hbb2 := hb1.trans (hb2.mono hb1.size)
    have hlen := right_len (right_of_good hG)
    have hi2 := ho2.blocks (by omega)
    have hil := HI.out.below hbb2
    have HEQ : Hid (decide (L = l) = rightB l) := by
      show _ = _
      rw [Bool.eq_iff_iff, decide_eq_true_iff]
      constructor
      · rintro rfl; exact right_of_good hG
      · intro hr
        exact good_bits hG (good_of_right hr) (fun t ht => (hL t ht).symm.trans (hB t ht))
    go_wp2_with fail
    refine (equal_is _ _ L l _ hi2 hil HEQ.out).mono ?_
    rintro e w3 ⟨rfl, hb3⟩
    go_wp2
    go_ret
    exact ⟨rfl, hbb2.trans (hb3.mono hbb2.size)⟩
  · have hr : rightB l = false := by
      rw [Bool.eq_false_iff]
      intro hr
      exact hno (okB_of_good (good_of_right hr))
    have HF : Hid (rightB l = false) := hr
    clear hr
    go_wp2
    go_ret
    exact ⟨ret_bool HF.out.symm, hb1⟩

theorem bright_is {f : Bool} (v : Value) (l : List (Int × Int)) (w : World) (h : IsBlocks w v l) (hf : rightB l = f) :
    Calls Try.prog 28 #[v] w fun e w' => e = .returned (.bool f) ∧ Below w.heap.size w w' := hf ▸ bright_any v l w h

end Go.Proofs.Yticmloddkngfnah

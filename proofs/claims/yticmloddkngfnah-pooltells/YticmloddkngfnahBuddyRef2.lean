/- The contract of the document's own answer framewardenref.BBlocks: the one way to have free frames in blocks. -/
import Derived.Test.YticmloddkngfnahBuddyRef1
namespace Go.Proofs.Yticmloddkngfnah
open Go.RowKit
set_option linter.unusedSimpArgs false
set_option linter.unusedVariables false

/-- All bits from x on, m of them. -/
def allT (B : Nat → Bool) (x m : Nat) : Bool := (List.range m).all fun i => B (x + i)

theorem allT_iff {B : Nat → Bool} {x m : Nat} : allT B x m = true ↔ ∀ i, i < m → B (x + i) = true := by simp [allT]

set_option maxHeartbeats 800000 in
theorem index_bits (g x m cap : Nat) (B : Nat → Bool) (w : World) (hrow : OwnRow w g 4 (bitsL B)) (hm : x + m ≤ 64) :
    Calls Try.prog 47 #[.slice (some ⟨g, x, none⟩) m cap, .bool false] w fun e w' => ∃ r : Int, e = .returned (.int .i64 r) ∧ (0 ≤ r ↔ allT B x m = false) ∧ w = w' := by
  go_enter Try.func47, Try.ntmps47
  go_wp2_with fail
  go_loop [8] (fun i => ∃ k : Nat, k ≤ m ∧ i = .int .i64 k ∧ Hid (∀ j, j < k → B (x + j) = true)) (fun i => m - (intOf i).toNat)
  case atStart => exact ⟨0, Nat.zero_le _, rfl, fun j hj => by omega⟩
  case round =>
    obtain ⟨k, hk, rfl, hno⟩ := hrel
    by_cases hlt : k < m
    · have hc : w.cell? ⟨g, x + k, none⟩ = some (.bool (B (x + k))) := by rw [hrow.cell]; exact bitsL_get _ _ (by omega)
      cases hb : B (x + k) with
      | true =>
        rw [hb] at hc
        have HN : Hid (∀ j, j < k + 1 → B (x + j) = true) := fun j hj => by
          by_cases h : j = k
          · rw [h]; exact hb
          · exact hno.out j (by omega)
        clear hb hno hrow
        go_wp2
        go_round
        case rel => exact ⟨k + 1, by omega, by go_num, HN⟩
        case measure => simp [intOf]; omega
      | false =>
        rw [hb] at hc
        have HN : Hid (allT B x m = false) := by
          show _ = _
          rw [Bool.eq_false_iff]
          intro h
          have := allT_iff.1 h k hlt
          rw [hb] at this
          cases this
        clear hb hno hrow
        go_wp2
        go_ret
        exact ⟨_, rfl, ⟨fun _ => HN.out, fun _ => by omega⟩, rfl⟩
    · go_wp2
      go_ret
      refine ⟨_, rfl, ⟨fun h => by omega, fun h => ?_⟩, rfl⟩
      rw [allT_iff.2 (fun i hi => hno.out i (by omega))] at h
      cases h

set_option maxHeartbeats 800000 in
theorem contains_bits (g x m cap : Nat) (B : Nat → Bool) (w : World) (hrow : OwnRow w g 4 (bitsL B)) (hm : x + m ≤ 64) :
    Calls Try.prog 40 #[.slice (some ⟨g, x, none⟩) m cap, .bool false] w fun e w' => e = .returned (.bool (!allT B x m)) ∧ w = w' := by
  have HR : Hid _ := hrow
  clear hrow
  go_enter Try.func40, Try.ntmps40
  go_wp2_with fail
  refine (index_bits g x m cap B w HR.out hm).mono ?_
  rintro e w' ⟨r, rfl, hr, rfl⟩
  have HH : Hid _ := hr
  clear hr
  go_wp2
  go_ret
  refine ⟨ret_bool ?_, rfl⟩
  have := HH.out
  cases hb : allT B x m with
  | true =>
    rw [hb] at this
    simp at this
    simp
    omega
  | false =>
    rw [hb] at this
    simpa using this

/-- Whether a block of order o at x is free. -/
def cnd (B : Nat → Bool) (x o : Nat) : Bool := decide (x % 2 ^ o = 0) && allT B x (2 ^ o)

/-- The greatest such order below o, or -1. -/
def ordOf (B : Nat → Bool) (x : Nat) : Nat → Int
  | 0 => -1
  | o + 1 => if cnd B x o then (o : Int) else ordOf B x o

theorem ordOf_spec (B : Nat → Bool) (x : Nat) : ∀ m : Nat, (ordOf B x m = -1 ∧ ∀ o, o < m → cnd B x o = false) ∨ ∃ o : Nat, o < m ∧ ordOf B x m = o ∧ cnd B x o = true ∧ ∀ q, o < q → q < m → cnd B x q = false
  | 0 => Or.inl ⟨rfl, fun o ho => by omega⟩
  | m + 1 => by
    cases hc : cnd B x m with
    | true => exact Or.inr ⟨m, by omega, by simp [ordOf, hc], hc, fun q h1 h2 => by omega⟩
    | false =>
      have he : ordOf B x (m + 1) = ordOf B x m := by simp [ordOf, hc]
      rcases ordOf_spec B x m with ⟨h1, h2⟩ | ⟨o, h1, h2, h3, h4⟩
      · refine Or.inl ⟨by rw [he, h1], fun o ho => ?_⟩
        by_cases h : o = m
        · rw [h]; exact hc
        · exact h2 o (by omega)
      · refine Or.inr ⟨o, by omega, by rw [he, h2], h3, fun q h5 h6 => ?_⟩
        by_cases h : q = m
        · rw [h]; exact hc
        · exact h4 q h5 (by omega)

/-- The block can't be had larger. -/
def Mx (B : Nat → Bool) (p : Int × Int) : Prop := ¬ (p.2 < 6 ∧ p.1 % (2 * sz p.2) = 0 ∧ ∀ t : Nat, p.1 ≤ (t : Int) → (t : Int) < p.1 + 2 * sz p.2 → B t = true)

/-- What has been laid in blocks so far. -/
def LaidTo (B : Nat → Bool) (x : Nat) (L : List (Int × Int)) : Prop :=
  Good L ∧ (∀ p ∈ L, p.1 + sz p.2 ≤ (x : Int)) ∧ (∀ t : Nat, t < x → (B t = true ↔ covL L t)) ∧ ∀ p ∈ L, Mx B p

theorem laid_start (B : Nat → Bool) : LaidTo B 0 [] := ⟨⟨fun p hp => by simp at hp, List.Pairwise.nil⟩, fun p hp => by simp at hp, fun t ht => by omega, fun p hp => by simp at hp⟩

theorem szN (o : Nat) : sz (o : Int) = ((2 ^ o : Nat) : Int) := by simp [sz]

theorem laid_skip {B : Nat → Bool} {x : Nat} {L : List (Int × Int)} (h : LaidTo B x L) (hb : B x = false) : LaidTo B (x + 1) L := by
  obtain ⟨h1, h2, h3, h4⟩ := h
  refine ⟨h1, fun p hp => by have := h2 p hp; omega, fun t ht => ?_, h4⟩
  by_cases htx : t = x
  · subst htx
    rw [hb]
    refine ⟨fun h => (by cases h), fun ⟨p, hp, hc⟩ => ?_⟩
    have := h2 p hp
    have := hc.2
    omega
  · exact h3 t (by omega)

theorem laid_step {B : Nat → Bool} {x o : Nat} {L : List (Int × Int)} (h : LaidTo B x L) (hx : x < 64) (ho : o < 7) (hc : cnd B x o = true) (hmax : ∀ q, o < q → q < 7 → cnd B x q = false) :
    LaidTo B (x + 2 ^ o) (L ++ [((x : Int), (o : Int))]) ∧ x + 2 ^ o ≤ 64 := by
  obtain ⟨h1, h2, h3, h4⟩ := h
  unfold cnd at hc
  simp only [Bool.and_eq_true, decide_eq_true_eq] at hc
  obtain ⟨hm, hall⟩ := hc
  rw [allT_iff] at hall
  have hmi : (x : Int) % sz (o : Int) = 0 := by rw [szN]; exact_mod_cast hm
  have hroom := block_room (show (0 : Int) ≤ o by omega) (show (o : Int) ≤ 6 by omega) (show (0 : Int) ≤ x by omega) (by omega) hmi
  have hs := sz_bd (show (0 : Int) ≤ o by omega) (show (o : Int) ≤ 6 by omega)
  have hblk : isBlk (x : Int) (o : Int) = true := isBlk_iff.2 ⟨by omega, by omega, by omega, hroom, hmi⟩
  have hroomN : x + 2 ^ o ≤ 64 := by rw [szN] at hroom; omega
  have hbits : ∀ t : Nat, x ≤ t → t < x + 2 ^ o → B t = true := fun t ht1 ht2 => by
    have := hall (t - x) (by omega)
    rwa [show x + (t - x) = t by omega] at this
  refine ⟨⟨⟨?_, ?_⟩, ?_, ?_, ?_⟩, hroomN⟩
  · intro p hp
    rw [List.mem_append, List.mem_singleton] at hp
    rcases hp with hp | rfl
    · exact h1.1 p hp
    · exact hblk
  · rw [List.pairwise_append]
    refine ⟨h1.2, List.pairwise_singleton _ _, fun p hp q hq => ?_⟩
    rw [List.mem_singleton] at hq
    subst hq
    have h5 := h2 p hp
    refine ⟨h5, ?_⟩
    rw [Bool.eq_false_iff]
    intro hbud
    have hpb := h1.1 p hp
    have hps := blk_pos hpb
    obtain ⟨e, ⟨e1, e2⟩ | ⟨-, e2⟩⟩ := (bud_iff hpb hblk).1 hbud
    · try simp only at e e1 e2
      refine h4 p hp ⟨?_, e1, fun t t1 t2 => ?_⟩
      · rcases (show p.2 < 6 ∨ p.2 = 6 by have := (isBlk_iff.1 hpb).2.1; omega) with h | h
        · exact h
        · rw [h, sz6] at e2
          have := (isBlk_iff.1 hpb).2.2.1
          omega
      · by_cases htx : t < x
        · exact (h3 t htx).2 ⟨p, hp, t1, by omega⟩
        · refine hbits t (by omega) ?_
          have : sz p.2 = ((2 ^ o : Nat) : Int) := by rw [e, szN]
          omega
    · try simp only at e2
      omega
  · intro p hp
    rw [List.mem_append, List.mem_singleton] at hp
    rcases hp with hp | rfl
    · have := h2 p hp
      have hq : ((x + 2 ^ o : Nat) : Int) = (x : Int) + ((2 ^ o : Nat) : Int) := Int.natCast_add _ _
      rw [hq]
      omega
    · simp only
      rw [szN]
      exact Int.le_of_eq (Int.natCast_add _ _).symm
  · intro t ht
    rw [covL_append, covL_one]
    by_cases htx : t < x
    · rw [h3 t htx]
      refine ⟨Or.inl, fun h => h.elim id fun h => ?_⟩
      have := h.1
      simp only at this
      omega
    · refine ⟨fun _ => Or.inr ⟨by simp only; omega, by simp only; rw [szN]; omega⟩, fun _ => hbits t (by omega) ht⟩
  · intro p hp
    rw [List.mem_append, List.mem_singleton] at hp
    rcases hp with hp | rfl
    · exact h4 p hp
    · rintro ⟨m1, m2, m3⟩
      simp only at m1 m2 m3
      have hnx := hmax (o + 1) (by omega) (by omega)
      have hpw : (2 : Nat) ^ (o + 1) = 2 * 2 ^ o := by rw [Nat.pow_succ]; omega
      have : cnd B x (o + 1) = true := by
        unfold cnd
        rw [Bool.and_eq_true, decide_eq_true_eq, allT_iff, hpw]
        refine ⟨?_, fun i hi => m3 (x + i) (by omega) (by rw [szN]; generalize (2 : Nat) ^ o = z at *; omega)⟩
        rw [szN] at m2
        exact_mod_cast m2
      rw [hnx] at this
      cases this

theorem laid_end {B : Nat → Bool} {L : List (Int × Int)} (h : LaidTo B 64 L) : Good L ∧ ∀ t : Nat, t < 64 → (B t = true ↔ covL L t) := ⟨h.1, h.2.2.1⟩

end Go.Proofs.Yticmloddkngfnah

/- The contract of the document's own answer framewardenref.BFree: which frames are free, or that the list is none. -/
import Derived.Test.YticmloddkngfnahBuddyTake
namespace Go.Proofs.Yticmloddkngfnah
open Go.RowKit
set_option linter.unusedSimpArgs false
set_option linter.unusedVariables false

/-- Sixty-four truths as cells. -/
def bitsL (B : Nat → Bool) : List Value := (List.range 64).map fun i => .bool (B i)

theorem bitsL_len (B : Nat → Bool) : (bitsL B).length = 64 := by simp [bitsL]

theorem bitsL_get (B : Nat → Bool) (i : Nat) (hi : i < 64) : (bitsL B)[i]? = some (.bool (B i)) := by
  unfold bitsL
  rw [List.getElem?_map, List.getElem?_range hi]
  rfl

def upd (B : Nat → Bool) (i : Nat) (b : Bool) : Nat → Bool := fun j => if j = i then b else B j

theorem bitsL_set (B : Nat → Bool) (i : Nat) (b : Bool) : (bitsL B).set i (.bool b) = bitsL (upd B i b) := by
  apply List.ext_getElem?
  intro j
  by_cases hj : j < 64
  · rw [bitsL_get _ j hj]
    unfold upd
    by_cases h : j = i
    · subst h
      rw [List.getElem?_set_self (by rw [bitsL_len]; exact hj)]
      simp
    · rw [List.getElem?_set_ne (fun e => h e.symm), bitsL_get _ j hj]
      simp [h]
  · rw [List.getElem?_eq_none (by rw [List.length_set, bitsL_len]; omega), List.getElem?_eq_none (by rw [bitsL_len]; omega)]

theorem bitsL_none : bitsL (fun _ => false) = List.replicate 64 (.bool false) := by
  unfold bitsL
  apply List.ext_getElem?
  intro j
  by_cases hj : j < 64
  · rw [List.getElem?_map, List.getElem?_range hj, List.getElem?_replicate, if_pos hj]; rfl
  · rw [List.getElem?_eq_none (by simp; omega), List.getElem?_eq_none (by simp; omega)]

/-- All are blocks, and each begins where the ones ahead have ended. -/
def okB (l : List (Int × Int)) : Prop := AllBlk l ∧ l.Pairwise (fun p q => p.1 + sz p.2 ≤ q.1)

theorem okB_of_good {l : List (Int × Int)} (h : Good l) : okB l := ⟨h.1, h.2.imp fun h => h.1⟩

theorem okB_take {l : List (Int × Int)} (h : okB l) (k : Nat) : okB (l.take k) := ⟨fun p hp => h.1 p (List.mem_of_mem_take hp), h.2.sublist (List.take_sublist k l)⟩

/-- Where the last of the first k blocks begins. -/
def lastOf (l : List (Int × Int)) (k : Nat) : Int := if k = 0 then -1 else (l.getD (k - 1) (0, 0)).1

theorem take_snoc {l : List (Int × Int)} {k : Nat} (hk : k < l.length) : l.take (k + 1) = l.take k ++ [l.getD k (0, 0)] := by
  rw [List.take_add_one, List.getElem?_eq_getElem hk, List.getD_eq_getElem?_getD, List.getElem?_eq_getElem hk]
  rfl

theorem lastOf_ge {l : List (Int × Int)} {k : Nat} (hk : k ≤ l.length) (h : okB (l.take k)) : -1 ≤ lastOf l k ∧ ∀ p ∈ l.take k, p.1 ≤ lastOf l k := by
  unfold lastOf
  split
  · rename_i h0
    subst h0
    exact ⟨by omega, fun p hp => by simp at hp⟩
  · rename_i h0
    obtain ⟨j, rfl⟩ : ∃ j, k = j + 1 := ⟨k - 1, by omega⟩
    rw [Nat.add_sub_cancel]
    rw [take_snoc (by omega)] at h ⊢
    have hb := isBlk_iff.1 (h.1 (l.getD j (0, 0)) (by simp))
    refine ⟨by omega, fun p hp => ?_⟩
    rw [List.mem_append, List.mem_singleton] at hp
    rcases hp with hp | rfl
    · have := (List.pairwise_append.1 h.2).2.2 p hp (l.getD j (0, 0)) (by simp)
      have := blk_pos (h.1 p (by simp [hp]))
      omega
    · exact Int.le_refl _

/-- The bits behind the first j frames of a block at x. -/
def setR (B : Nat → Bool) (x j : Int) : Nat → Bool := fun t => B t || (decide (x ≤ (t : Int)) && decide ((t : Int) < x + j))

theorem setR_zero (B : Nat → Bool) (x : Int) : setR B x 0 = B := by
  funext t
  unfold setR
  have : (decide (x ≤ (t : Int)) && decide ((t : Int) < x + 0)) = false := by
    rw [Bool.and_eq_false_iff, decide_eq_false_iff_not, decide_eq_false_iff_not]
    omega
  rw [this]
  simp

theorem setR_succ (B : Nat → Bool) (x : Nat) (j : Nat) : upd (setR B x j) (x + j) true = setR B x ((j : Int) + 1) := by
  funext t
  unfold upd setR
  by_cases h : t = x + j
  · subst h
    rw [if_pos rfl]
    symm
    rw [Bool.or_eq_true, Bool.and_eq_true, decide_eq_true_eq, decide_eq_true_eq]
    right
    push_cast
    omega
  · rw [if_neg h]
    congr 1
    rw [Bool.eq_iff_iff]
    simp only [Bool.and_eq_true, decide_eq_true_eq]
    omega

theorem block_room {x y : Int} (h0 : 0 ≤ y) (h6 : y ≤ 6) (hx0 : 0 ≤ x) (hx : x ≤ 63) (hm : x % sz y = 0) : x + sz y ≤ 64 := by
  rcases ord_cases h0 h6 with rfl | rfl | rfl | rfl | rfl | rfl | rfl <;> simp only [sz0, sz1, sz2, sz3, sz4, sz5, sz6] at * <;> omega

theorem okB_snoc {l : List (Int × Int)} {x y : Int} (h : okB l) (hb : isBlk x y = true) (hlt : ∀ p ∈ l, p.1 < x) (hno : ∀ t : Int, x ≤ t → t < x + sz y → ¬ covL l t) : okB (l ++ [(x, y)]) := by
  have hp := blk_pos (p := (x, y)) hb
  simp only at hp
  refine ⟨fun p hp => ?_, ?_⟩
  · rw [List.mem_append, List.mem_singleton] at hp
    rcases hp with hp | rfl
    · exact h.1 p hp
    · exact hb
  · rw [List.pairwise_append]
    refine ⟨h.2, List.pairwise_singleton _ _, fun p hp' q hq => ?_⟩
    rw [List.mem_singleton] at hq
    subst hq
    simp only
    rcases Int.lt_or_le x (p.1 + sz p.2) with h1 | h1
    · exact (hno x (Int.le_refl _) (by omega) ⟨p, hp', by have := hlt p hp'; omega, h1⟩).elim
    · exact h1

theorem okB_meet {l : List (Int × Int)} {k : Nat} (hk : k < l.length) (h : okB l) : (∀ t, cov (l.getD k (0, 0)) t → ¬ covL (l.take k) t) ∧ lastOf l k < (l.getD k (0, 0)).1 ∧ isBlk (l.getD k (0, 0)).1 (l.getD k (0, 0)).2 = true := by
  have h1 := okB_take h (k + 1)
  rw [take_snoc hk] at h1
  have hpw := (List.pairwise_append.1 h1.2).2.2
  have hb := h1.1 (l.getD k (0, 0)) (by simp)
  refine ⟨fun t ht hc => ?_, ?_, hb⟩
  · obtain ⟨p, hp, h2, h3⟩ := hc
    have := hpw p hp (l.getD k (0, 0)) (by simp)
    have := ht.1
    omega
  · unfold lastOf
    split
    · have := (isBlk_iff.1 hb).2.2.1
      omega
    · obtain ⟨j, rfl⟩ : ∃ j, k = j + 1 := ⟨k - 1, by omega⟩
      rw [Nat.add_sub_cancel]
      have hm : l.getD j (0, 0) ∈ l.take (j + 1) := by rw [take_snoc (by omega)]; simp
      have := hpw _ hm (l.getD (j + 1) (0, 0)) (by simp)
      have := blk_pos (h1.1 (l.getD j (0, 0)) (List.mem_append.2 (Or.inl hm)))
      omega

theorem tmod_sz {x y : Int} (hx : 0 ≤ x) : x.tmod (sz y) = x % sz y := Int.tmod_eq_emod_of_nonneg hx

theorem info_bool : (Try.prog.info? 4).map (fun i => (i.zero, i.size, i.bytes)) = some (some (.bool false), 1, 1) := by kernel_rfl

/-- What BFree answers. -/
def FreePost (w : World) (l : List (Int × Int)) (e : Ending) (w' : World) : Prop :=
  ((∃ g B, e = .returned (.tuple #[.slice (some ⟨g, 0, none⟩) 64 64, .bool true]) ∧ OwnRow w' g 4 (bitsL B) ∧ w.heap.size ≤ g ∧ okB l ∧ ∀ t : Nat, t < 64 → (B t = true ↔ covL l t)) ∨
   (e = .returned (.tuple #[.slice none 0 0, .bool false]) ∧ ¬ okB l)) ∧ Below w.heap.size w w'

set_option maxRecDepth 100000 in
set_option maxHeartbeats 4000000 in
theorem bfree_any (v : Value) (l : List (Int × Int)) (w : World) (h : IsBlocks w v l) :
    Calls Try.prog 27 #[v] w fun e w' => FreePost w l e w' := by
  obtain ⟨a, cap, rfl, h1, hl, hc'⟩ := h
  obtain ⟨i0, hi, hz0, hz1, hz2⟩ := info_parts info_bool
  obtain ⟨n, hn⟩ : ∃ n, Hid (n = l.length) := ⟨_, rfl⟩
  rw [← hn.out] at hl hc' ⊢
  obtain ⟨G, hG⟩ : ∃ G, Hid (G = w.heap.size) := ⟨_, rfl⟩
  go_enter Try.func27, Try.ntmps27
  go_wp2_with (at_make; refine wpList_make_row _ rfl _ _ 48 rfl 4 i0 (.bool false) Try.underlying48 hi hz0 hz1 rfl .i64 .i64 64 64 64 rfl rfl rfl rfl (by rw [hz2]; decide) (by decide) ?_; intro w1 hrow hb1 hsz1)
  rw [← hG.out] at hrow ⊢
  have hb1' : Below w.heap.size w w1 := hb1
  rw [← bitsL_none] at hrow
  have hGw : w.heap.size ≤ G := by rw [hG.out]; exact Nat.le_refl _
  clear hsz1 hb1
  go_loopw [5, 13] (fun la i wr => ∃ (k : Nat) (B : Nat → Bool), k ≤ n ∧ i = .int .i64 k ∧ la = .int .i64 (lastOf l k) ∧ OwnRow wr G 4 (bitsL B) ∧ okB (l.take k) ∧ (∀ t : Nat, t < 64 → (B t = true ↔ covL (l.take k) t)) ∧ Below w.heap.size w wr) (fun _ i _ => n - (intOf i).toNat)
  case atStart => exact ⟨0, fun _ => false, Nat.zero_le _, rfl, rfl, hrow, ⟨fun p hp => by simp at hp, by simp⟩, fun t _ => ⟨fun h => (by cases h), fun ⟨p, hp, _⟩ => (by simp at hp)⟩, hb1'⟩
  clear hrow hb1'
  case round =>
    obtain ⟨k, B, hk, rfl, rfl, hrow, hok, hB, hbel⟩ := hrel
    by_cases hlt : k < n
    · obtain ⟨b, off, rfl, hc⟩ := hc' (by omega)
      have hck := hc k hlt
      have hkl : k < l.length := by rw [← hn.out]; exact hlt
      have HM : Hid (okB l → (∀ t, cov (l.getD k (0, 0)) t → ¬ covL (l.take k) t) ∧ lastOf l k < (l.getD k (0, 0)).1 ∧ isBlk (l.getD k (0, 0)).1 (l.getD k (0, 0)).2 = true) := fun h => okB_meet hkl h
      have HT : Hid (l.take (k + 1) = l.take k ++ [l.getD k (0, 0)]) := take_snoc hkl
      obtain ⟨hla, hlb⟩ := lastOf_ge (show k ≤ l.length by omega) hok
      have HL : Hid (lastOf l (k + 1) = (l.getD k (0, 0)).1) := by show _ = _; simp [lastOf]
      obtain ⟨⟨px, py⟩, hp⟩ : ∃ p, p = l.getD k (0, 0) := ⟨_, rfl⟩
      rw [← hp] at hck HM HT HL
      clear hp
      simp only at hck HM HL
      have hk0 : wr.cell? ⟨b, off + k * 2, none⟩ = some (.int .i64 px) := (hbel.cell (cell_lt hck.1)).trans hck.1
      have hk1 : wr.cell? ⟨b, off + k * 2 + 1, none⟩ = some (.int .i64 py) := (hbel.cell (cell_lt hck.2)).trans hck.2
      obtain ⟨la, hlae⟩ : ∃ la, la = lastOf l k := ⟨_, rfl⟩
      rw [← hlae] at HM hla hlb ⊢
      have HLB : Hid (∀ p ∈ l.take k, p.1 ≤ la) := hlb
      have HOK : Hid (okB (l.take k)) := hok
      have HB : Hid (∀ t : Nat, t < 64 → (B t = true ↔ covL (l.take k) t)) := hB
      clear hck hlae hlb hok hB
      by_cases hg : 0 ≤ py ∧ py ≤ 6 ∧ la < px ∧ px ≤ 63
      · obtain ⟨g1, g2, g3, g4⟩ := hg
        have hss := sz_bd g1 g2
        have hG2 : G < wr.heap.size := hrow.lt
        have d1 : decide (py < 0) = false := by simp; omega
        have d2 : decide (py > 6) = false := by simp; omega
        have d3 : decide (px ≤ la) = false := by simp; omega
        have d4 : decide (px > 63) = false := by simp; omega
        obtain ⟨W, hW⟩ : ∃ W, Hid (W = wr.alloc (.cells #[.int .i64 px, .int .i64 py] 45)) := ⟨_, rfl⟩
        have hbW : Below wr.heap.size wr W := by rw [hW.out]; exact (Below.refl _ _).alloc (Nat.le_refl _) _
        have hbx : OwnRow W wr.heap.size 45 [.int .i64 px, .int .i64 py] := by rw [hW.out]; exact heap_alloc_new wr _
        have hrowW := hrow.below hbW hG2
        have hwW : Below w.heap.size w W := hbel.trans (hbW.mono hbel.size)
        obtain ⟨X, hX⟩ : ∃ X, Hid (X = wr.heap.size) := ⟨_, rfl⟩
        have hGX : G < X := by rw [hX.out]; exact hG2
        have hwX : w.heap.size ≤ X := by rw [hX.out]; exact hbel.size
        go_wp2_with fail
        rw [← hW.out, ← hX.out]
        rw [← hX.out] at hbx
        clear hW hbW hX hrow hbel hk0 hk1 hG2 d1 d2 d3 d4
        have hx0 : W.cell? ⟨X, 0, none⟩ = some (.int .i64 px) := by rw [hbx.cell]; rfl
        have hx1 : W.cell? ⟨X, 1, none⟩ = some (.int .i64 py) := by rw [hbx.cell]; rfl
        go_loop [8, 38] (fun m i => ∃ j : Nat, (j : Int) ≤ py ∧ i = .int .i64 j ∧ m = .int .i64 (sz j)) (fun _ i => (py - intOf i).toNat)
        case atStart => exact ⟨0, g1, rfl, rfl⟩
        case round =>
          obtain ⟨j, hj, rfl, rfl⟩ := hrel
          have hsj := sz_bd (show (0 : Int) ≤ j by omega) (by omega)
          by_cases hjl : (j : Int) < py
          · have HS : Hid (sz ((j : Int) + 1) = 2 * sz j) := sz_succ (by omega)
            go_wp2
            refine ⟨⟨j + 1, by omega, by go_num, ?_⟩, by simp [intOf]; omega⟩
            exact congrArg (Value.int .i64) (by rw [show ((j + 1 : Nat) : Int) = (j : Int) + 1 by omega, HS.out]; omega)
          · have hje : py = (j : Int) := by omega
            subst hje
            obtain ⟨s, hs⟩ : ∃ s : Nat, sz (j : Int) = s := ⟨2 ^ j, by simp [sz]⟩
            have hs1 : 1 ≤ s := by omega
            have hs64 : s ≤ 64 := by omega
            have hpx0 : 0 ≤ px := by omega
            obtain ⟨x, rfl⟩ : ∃ x : Nat, px = x := ⟨px.toNat, by omega⟩
            have htm : ((x : Int)).tmod (s : Int) = ((x % s : Nat) : Int) := by rw [Int.tmod_eq_emod_of_nonneg hpx0]; rfl
            have hs0 : ¬ ((s : Int) = 0) := by omega
            have HSZ : Hid (sz (j : Int) = s) := hs
            rw [hs] at hsj hss ⊢
            clear hs
            by_cases hmod : x % s = 0
            · have hblk : isBlk (x : Int) (j : Int) = true := by
                have hm : (x : Int) % sz (j : Int) = 0 := by rw [HSZ.out, ← Int.natCast_emod, hmod]; rfl
                exact isBlk_iff.2 ⟨g1, g2, hpx0, block_room g1 g2 hpx0 g4 hm, hm⟩
              have hxs : x + s ≤ 64 := by
                have := (isBlk_iff.1 hblk).2.2.2.1
                rw [HSZ.out] at this
                omega
              have HBK : Hid (isBlk (x : Int) (j : Int) = true) := hblk
              clear hblk
              rw [hmod] at htm
              go_wp2_with fail
              go_loopw [49] (fun i wr2 => ∃ q : Nat, q ≤ s ∧ i = .int .i64 q ∧ OwnRow wr2 G 4 (bitsL (setR B (x : Int) (q : Int))) ∧ wr2.cell? ⟨X, 0, none⟩ = some (.int .i64 (x : Int)) ∧ (∀ t : Nat, x ≤ t → t < x + q → B t = false) ∧ Below w.heap.size w wr2) (fun i _ => s - (intOf i).toNat)
              case atStart => exact ⟨0, Nat.zero_le _, rfl, by rw [Int.natCast_zero, setR_zero]; exact hrowW, hx0, fun t h1 h2 => by omega, hwW⟩
              clear hrowW hx0 hx1 hwW hbx
              case round =>
                obtain ⟨q, hq, rfl, hrow, hx0, hfree, hbel⟩ := hrel
                by_cases hql : q < s
                · have hcell : wr.cell? ⟨G, x + q, none⟩ = some (.bool (setR B (x : Int) (q : Int) (x + q))) := by rw [hrow.cell]; exact bitsL_get _ _ (by omega)
                  have hset : setR B (x : Int) (q : Int) (x + q) = B (x + q) := by
                    unfold setR
                    have : (decide ((x : Int) ≤ ((x + q : Nat) : Int)) && decide (((x + q : Nat) : Int) < (x : Int) + (q : Int))) = false := by
                      rw [Bool.and_eq_false_iff, decide_eq_false_iff_not, decide_eq_false_iff_not]
                      right
                      push_cast
                      omega
                    rw [this]
                    simp
                  rw [hset] at hcell
                  clear hset
                  have hfz := hrow.free (x + q)
                  have hxq : x + q < 64 := by omega
                  cases hbt : B (x + q) with
                  | true =>
                    rw [hbt] at hcell
                    have HNO : Hid (¬ okB l) := fun h => by
                      obtain ⟨m1, -, -⟩ := HM.out h
                      refine m1 ((x + q : Nat) : Int) ⟨by push_cast; omega, by simp only; rw [HSZ.out]; push_cast; omega⟩ ((HB.out (x + q) hxq).1 hbt)
                    clear hfree
                    go_wp2
                    go_ret2
                    exact ⟨Or.inr ⟨rfl, HNO.out⟩, hbel⟩
                  | false =>
                    rw [hbt] at hcell
                    have HR : Hid (OwnRow (wr.setCell ⟨G, x + q, none⟩ (.bool true)) G 4 (bitsL (setR B (x : Int) ((q : Int) + 1)))) := by
                      have := hrow.set (x + q) (.bool true)
                      rw [bitsL_set, setR_succ] at this
                      exact this
                    have HFR : Hid (∀ t : Nat, x ≤ t → t < x + (q + 1) → B t = false) := fun t h1 h2 => by
                      by_cases ht : t = x + q
                      · rw [ht]; exact hbt
                      · exact hfree t h1 (by omega)
                    have HX0 : Hid ((wr.setCell ⟨G, x + q, none⟩ (.bool true)).cell? ⟨X, 0, none⟩ = some (.int .i64 (x : Int))) := by
                      show _ = _
                      rw [World.cell?_of_block (Below.heap_setCell wr ⟨G, x + q, none⟩ (.bool true) X (by simp only; omega))]
                      exact hx0
                    clear hfree hrow
                    go_wp2
                    exact ⟨⟨q + 1, by omega, by go_num, (by push_cast; exact HR.out), HX0.out, HFR.out, hbel.setCell hGw _⟩, by simp [intOf]; omega⟩
                · obtain rfl : s = q := by omega
                  have HFR : Hid (∀ t : Nat, x ≤ t → t < x + s → B t = false) := hfree
                  clear hfree
                  have HTK : Hid (okB (l.take (k + 1)) ∧ ∀ t : Nat, t < 64 → (setR B (x : Int) (s : Int) t = true ↔ covL (l.take (k + 1)) t)) := by
                    rw [HT.out]
                    refine ⟨okB_snoc HOK.out HBK.out (fun p hp => by have := HLB.out p hp; omega) (fun t h1 h2 hc => ?_), fun t ht => ?_⟩
                    · rw [HSZ.out] at h2
                      obtain ⟨u, rfl⟩ : ∃ u : Nat, t = u := ⟨t.toNat, by omega⟩
                      have h3 := HFR.out u (by omega) (by omega)
                      rw [(HB.out u (by omega)).2 hc] at h3
                      cases h3
                    · rw [covL_append, covL_one]
                      unfold setR cov
                      rw [Bool.or_eq_true, Bool.and_eq_true, decide_eq_true_eq, decide_eq_true_eq, HB.out t ht]
                      simp only [HSZ.out]
                  go_wp2
                  exact ⟨⟨k + 1, setR B (x : Int) (s : Int), by omega, by go_num, by rw [HL.out], hrow, HTK.out.1, HTK.out.2, hbel⟩, by simp [intOf]; omega⟩
            · have hnd : ¬ (((x % s : Nat) : Int) = 0) := by omega
              have HNO : Hid (¬ okB l) := fun h => by
                obtain ⟨-, -, m3⟩ := HM.out h
                have := (isBlk_iff.1 m3).2.2.2.2
                rw [HSZ.out, ← Int.natCast_emod] at this
                exact hnd this
              go_wp2
              go_ret2
              exact ⟨Or.inr ⟨rfl, HNO.out⟩, hwW⟩
      · have HNO : Hid (¬ okB l) := fun h => by
          obtain ⟨-, m2, m3⟩ := HM.out h
          obtain ⟨q1, q2, q3, q4, -⟩ := isBlk_iff.1 m3
          have := sz_bd q1 q2
          exact hg ⟨q1, q2, m2, by omega⟩
        have hbA : Below w.heap.size w (wr.alloc (.cells #[.int .i64 px, .int .i64 py] 45)) := hbel.alloc hbel.size _
        by_cases c1 : py < 0
        · go_wp2
          go_ret2
          exact ⟨Or.inr ⟨rfl, HNO.out⟩, hbA⟩
        · have d1 : decide (py < 0) = false := by simpa using c1
          by_cases c2 : 6 < py
          · have d2 : decide (py > 6) = true := by simpa using c2
            go_wp2
            go_ret2
            exact ⟨Or.inr ⟨rfl, HNO.out⟩, hbA⟩
          · have d2 : decide (py > 6) = false := by simpa using c2
            by_cases c3 : px ≤ la
            · go_wp2
              go_ret2
              exact ⟨Or.inr ⟨rfl, HNO.out⟩, hbA⟩
            · have d3 : decide (px ≤ la) = false := by simpa using c3
              have c4 : 63 < px := by omega
              have d4 : decide (px > 63) = true := by simpa using c4
              go_wp2
              go_ret2
              exact ⟨Or.inr ⟨rfl, HNO.out⟩, hbA⟩
    · obtain rfl : k = n := by omega
      rw [List.take_of_length_le (by rw [← hn.out]; omega)] at hok hB
      go_wp2
      go_ret2
      exact ⟨Or.inl ⟨G, B, rfl, hrow, hGw, hok, hB⟩, hbel⟩

end Go.Proofs.Yticmloddkngfnah

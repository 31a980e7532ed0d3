/- The contract of buddy.Give. -/
import Derived.Test.YticmloddkngfnahBuddy7
import Derived.Deep.RegionWith
namespace Go.Proofs.Yticmloddkngfnah
open Go.RowKit
set_option linter.unusedSimpArgs false
set_option linter.unusedVariables false

/-- All buddies joined: what is left of the list, and the block. -/
def joinF : Nat → List (Int × Int) → Int → Int → List (Int × Int) × Int × Int
  | 0, l, x, y => (l, x, y)
  | f + 1, l, x, y => if 0 ≤ budIx x y l then joinF f (l.eraseIdx (budIx x y l).toNat) (min x (l.getD (budIx x y l).toNat (0, 0)).1) (y + 1) else (l, x, y)

def slen : Value → Nat
  | .slice _ n _ => n
  | _ => 0

theorem OwnB.slen {base : Nat} {w : World} {v : Value} {l : List (Int × Int)} (h : OwnB base w v l) : slen v = l.length := by
  rcases h.2 with ⟨rfl, h0⟩ | ⟨g, cap, cur, rfl, -⟩
  · simp [Go.Proofs.Yticmloddkngfnah.slen, h0]
  · rfl

theorem OwnB.kept {base : Nat} {w w' : World} {v : Value} {l : List (Int × Int)} (h : OwnB base w v l) (hk : ∀ g, base ≤ g → g < w.heap.size → w'.heap[g]? = w.heap[g]?) : OwnB base w' v l := by
  obtain ⟨h1, h2 | ⟨g, cap, cur, rfl, hbg, hg, hr⟩⟩ := h
  · exact ⟨h1, Or.inl h2⟩
  · exact ⟨h1, Or.inr ⟨g, cap, cur, rfl, hbg, (hk g hbg (Array.getElem?_eq_some_iff.1 hg).1).trans hg, hr⟩⟩

theorem budIx_bd (x y : Int) (l : List (Int × Int)) : -1 ≤ budIx x y l ∧ budIx x y l < l.length := by
  unfold budIx
  split
  · rename_i h
    have : l.findIdx (fun p => areB p.1 p.2 x y) < l.length := List.findIdx_lt_length.2 (by simpa using h)
    omega
  · omega

theorem budIx_get {x y : Int} {l : List (Int × Int)} (h : 0 ≤ budIx x y l) : areB (l.getD (budIx x y l).toNat (0, 0)).1 (l.getD (budIx x y l).toNat (0, 0)).2 x y = true := by
  unfold budIx at *
  split at h
  · rename_i ha
    rw [if_pos ha, Int.toNat_natCast]
    have hlt : l.findIdx (fun p => areB p.1 p.2 x y) < l.length := List.findIdx_lt_length.2 (by simpa using ha)
    have := List.findIdx_getElem (w := hlt)
    rw [List.getD_eq_getElem?_getD, List.getElem?_eq_getElem hlt]
    exact this
  · omega

theorem AllBlk.erase {l : List (Int × Int)} (h : AllBlk l) (i : Nat) : AllBlk (l.eraseIdx i) := fun p hp => h p (List.mem_of_mem_eraseIdx hp)

/-- What Give answers where it gives. -/
def giveJ (l : List (Int × Int)) (x y : Int) : List (Int × Int) × Int × Int := joinF l.length l x y
def giveIn (J : List (Int × Int) × Int × Int) : List (Int × Int) := J.1.take (insIx J.2.1 J.1) ++ [(J.2.1, J.2.2)] ++ J.1.drop (insIx J.2.1 J.1)

theorem touches_is {f : Bool} (v : Value) (l : List (Int × Int)) (x y : Int) (w : World) (h : IsBlocks w v l) (hb : isBlk x y = true) (hA : AllBlk l) (hf : l.any (meets x y) = f) :
    Calls Try.prog 35 #[v, .agg #[.int .i64 x, .int .i64 y]] w fun e w' => e = .returned (.bool f) ∧ Below w.heap.size w w' := hf ▸ touches_any v l x y w h hb hA

set_option maxHeartbeats 1600000 in
theorem give_ok (v : Value) (l : List (Int × Int)) (x y : Int) (w : World) (h : IsBlocks w v l) (hr : rightB l = true) (hb : isBlk x y = true) (ht : l.any (meets x y) = false) :
    Calls Try.prog 21 #[v, .agg #[.int .i64 x, .int .i64 y]] w fun e w' => ∃ v', e = .returned (.tuple #[v', .int .i64 0]) ∧ OwnB (w.heap.size + 1) w' v' (giveIn (giveJ l x y)) ∧ Below w.heap.size w w' := by
  have hA := rightB_blk hr
  have hlen := right_len hr
  have HI : Hid (IsBlocks w v l) := h
  obtain ⟨J, hJ⟩ : ∃ J, Hid (giveJ l x y = J) := ⟨_, rfl⟩
  rw [hJ.out]
  clear h
  have hbA : Below w.heap.size w (w.alloc (.cells #[.int .i64 x, .int .i64 y] 45)) := (Below.refl _ _).alloc (Nat.le_refl _) _
  have hro : OwnRow (w.alloc (.cells #[.int .i64 x, .int .i64 y] 45)) w.heap.size 45 [.int .i64 x, .int .i64 y] := heap_alloc_new w _
  obtain ⟨w0, hw0⟩ : ∃ w0, w0 = w.alloc (.cells #[.int .i64 x, .int .i64 y] 45) := ⟨_, rfl⟩
  go_enter Try.func21, Try.ntmps21
  go_wp2_with fail
  rw [← hw0] at hro hbA ⊢
  clear hw0
  have hlt0 := hro.lt
  refine (right_is _ l _ (HI.out.below hbA) hr).mono ?_
  rintro e w1 ⟨rfl, hb1⟩
  have hro1 := hro.below hb1 hro.lt
  have hbA1 := hbA.trans (hb1.mono hbA.size)
  clear hro hbA
  have hc0 : w1.cell? ⟨w.heap.size, 0, none⟩ = some (.int .i64 x) := by rw [hro1.cell]; rfl
  have hc1 : w1.cell? ⟨w.heap.size, 1, none⟩ = some (.int .i64 y) := by rw [hro1.cell]; rfl
  go_wp2_with fail
  refine (isBlock_is _ _ _ hb).mono ?_
  rintro e w2 ⟨rfl, hb2⟩
  have hro2 := hro1.below hb2 hro1.lt
  have hbA2 := hbA1.trans (hb2.mono hbA1.size)
  clear hc0 hc1 hro1 hbA1
  have hc0 : w2.cell? ⟨w.heap.size, 0, none⟩ = some (.int .i64 x) := by rw [hro2.cell]; rfl
  have hc1 : w2.cell? ⟨w.heap.size, 1, none⟩ = some (.int .i64 y) := by rw [hro2.cell]; rfl
  go_wp2_with fail
  refine (touches_is _ l _ _ _ (HI.out.below hbA2) hb hA ht).mono ?_
  rintro e w3 ⟨rfl, hb3⟩
  have hro3 := hro2.below hb3 hro2.lt
  have hbA3 := hbA2.trans (hb3.mono hbA2.size)
  clear hc0 hc1 hro2 hbA2
  go_wp2_with fail
  refine (clone_any _ l _ (HI.out.below hbA3)).mono ?_
  rintro e w4 ⟨v4, rfl, hown4, hb4⟩
  have hro4 := hro3.below hb4 hro3.lt
  have hbA4 := hbA3.trans (hb4.mono hbA3.size)
  have hlt3 := hro3.lt
  clear hro3 hbA3
  have hc0 : w4.cell? ⟨w.heap.size, 0, none⟩ = some (.int .i64 x) := by rw [hro4.cell]; rfl
  have hc1 : w4.cell? ⟨w.heap.size, 1, none⟩ = some (.int .i64 y) := by rw [hro4.cell]; rfl
  go_wp2_with fail
  refine (buddyOf_any _ l _ _ _ (hown4.blocks (by omega)) hA).mono ?_
  rintro e w5 ⟨rfl, hb5⟩
  have hro5 := hro4.below hb5 hro4.lt
  have hbA5 := hbA4.trans (hb5.mono hbA4.size)
  have hown5 := (hown4.mono (show w.heap.size + 1 ≤ w3.heap.size by omega)).below hb5
  clear hro4 hbA4 hc0 hc1 hown4
  go_wp2_with fail
  go_loopw [6, 7] (fun v i wr => ∃ (f : List (Int × Int)) (x y : Int), OwnB (w.heap.size + 1) wr v f ∧ i = .int .i64 (budIx x y f) ∧ OwnRow wr w.heap.size 45 [.int .i64 x, .int .i64 y] ∧ Hid (joinF f.length f x y = J) ∧ AllBlk f ∧ f.length ≤ 64 ∧ Below w.heap.size w wr) (fun v _ _ => slen v)
  case atStart => exact ⟨l, x, y, hown5, rfl, hro5, hJ, hA, hlen, hbA5⟩
  clear hro5 hbA5 hown5 hb1 hb2 hb3 hb4 hb5 hJ HI hlen hA hlt3 hlt0 ht hb hr
  case round =>
    obtain ⟨f, x, y, hown, rfl, hrow, hj, hA, hfl, hbel⟩ := hrel
    have hbd := budIx_bd x y f
    have hc0 : wr.cell? ⟨w.heap.size, 0, none⟩ = some (.int .i64 x) := by rw [hrow.cell]; rfl
    have hc1 : wr.cell? ⟨w.heap.size, 1, none⟩ = some (.int .i64 y) := by rw [hrow.cell]; rfl
    have hsl := hown.slen
    by_cases hpos : 0 ≤ budIx x y f
    · have hget := budIx_get hpos
      obtain ⟨i, hi⟩ : ∃ i : Nat, budIx x y f = i := ⟨_, (Int.toNat_of_nonneg hpos).symm⟩
      have hif : i < f.length := by omega
      have hjs : joinF f.length f x y = joinF (f.eraseIdx i).length (f.eraseIdx i) (min x (f.getD i (0, 0)).1) (y + 1) := by
        rw [List.length_eraseIdx_of_lt hif]
        obtain ⟨m, hm⟩ : ∃ m, f.length = m + 1 := ⟨f.length - 1, by omega⟩
        rw [hm, joinF, if_pos hpos, hi, Int.toNat_natCast]
        rfl
      rw [hi, Int.toNat_natCast] at hget
      rw [hi]
      have hblk := hA.get hif
      have hbs := hown.blocks (by omega)
      have HO : Hid (OwnB (w.heap.size + 1) wr u6 f) := hown
      obtain ⟨g, cap, xs, rfl, hbg, hrow6, -⟩ := hown.row (by omega)
      obtain ⟨a, cap', he, h1, hl2, hc'⟩ := hbs
      obtain ⟨b, off, rfl, hc⟩ := hc' (by omega)
      simp only [Value.slice.injEq, Option.some.injEq, Addr.mk.injEq] at he
      obtain ⟨⟨rfl, rfl, -⟩, -, rfl⟩ := he
      have hci := hc i hif
      obtain ⟨⟨px, py⟩, hp⟩ : ∃ p, p = f.getD i (0, 0) := ⟨_, rfl⟩
      rw [← hp] at hjs hblk hci hget
      simp only at hjs hblk hci hget
      obtain ⟨q0, q6, qx0, qx, -⟩ := isBlk_iff.1 hblk
      have hyy : py = y := by unfold areB at hget; simp only [Bool.and_eq_true, beq_iff_eq] at hget; exact hget.1
      have hci0 := hci.1
      have hci1 := hci.2
      rw [Nat.zero_add] at hci0 hci1
      have HJ : Hid (joinF (f.eraseIdx i).length (f.eraseIdx i) (min x px) (y + 1) = J) := hjs.symm.trans hj.out
      have HA : Hid (AllBlk f) := hA
      obtain ⟨n, hn⟩ : ∃ n, Hid (n = f.length) := ⟨_, rfl⟩
      rw [← hn.out] at HO h1 hif hfl ⊢
      have hw0 : w.heap.size < wr.heap.size := hrow.lt
      have hfz0 := hrow.free 0
      have hfz1 := hrow.free 1
      subst hyy
      clear hjs hj hblk hci hc hget hi hp hA hown hrow6 hsl hc' hpos hl2
      go_wp2_with fail
      have hbe : Below wr.heap.size wr wr.drew := (Below.refl _ _).drew
      go_region_with (first | (go_at_call 37; refine (joined_any _ _ _ _ _ q0 q6).mono ?_; rintro e w2 ⟨rfl, hb2⟩; have hB0 := (hbe.trans hb2).cell (cell_lt hc0); have hB1 := (hbe.trans hb2).cell (cell_lt hc1); have hF0 := (hbe.trans hb2).frozen (p := ⟨w.heap.size, 0, none⟩) hw0; have hF1 := (hbe.trans hb2).frozen (p := ⟨w.heap.size, 1, none⟩) hw0; rw [hc0] at hB0; rw [hc1] at hB1; rw [hfz0] at hF0; rw [hfz1] at hF1))
      all_goals
        have hbr : Below wr.heap.size wr w2 := hbe.trans hb2
        have hrw2 := hrow.below hbr hw0
        have hrw3 : OwnRow ((w2.setCell ⟨w.heap.size, 0, none⟩ (.int .i64 (min x px))).setCell ⟨w.heap.size, 1, none⟩ (.int .i64 (py + 1))) w.heap.size 45 [.int .i64 (min x px), .int .i64 (py + 1)] := (hrw2.set 0 _).set 1 _
        have hbw3 : Below w.heap.size w ((w2.setCell ⟨w.heap.size, 0, none⟩ (.int .i64 (min x px))).setCell ⟨w.heap.size, 1, none⟩ (.int .i64 (py + 1))) := ((hbel.trans (hbr.mono hbel.size)).setCell (Nat.le_refl _) _).setCell (Nat.le_refl _) _
        have hob3 : OwnB (w.heap.size + 1) ((w2.setCell ⟨w.heap.size, 0, none⟩ (.int .i64 (min x px))).setCell ⟨w.heap.size, 1, none⟩ (.int .i64 (py + 1))) (.slice (some ⟨g, 0, none⟩) n cap) f := (HO.out.below hbr).kept (fun k hk _ => by
          rw [Below.heap_setCell _ _ _ _ (by simp only; omega), Below.heap_setCell _ _ _ _ (by simp only; omega)])
        obtain ⟨w3', hw3'⟩ : ∃ w3', w3' = (w2.setCell ⟨w.heap.size, 0, none⟩ (.int .i64 (min x px))).setCell ⟨w.heap.size, 1, none⟩ (.int .i64 (py + 1)) := ⟨_, rfl⟩
        rw [← hw3'] at hrw3 hbw3 hob3 ⊢
        clear hw3' hB0 hB1 hF0 hF1 hrw2
        have hdel : Hid (∀ w', OwnB (w.heap.size + 1) w' (.slice (some ⟨g, 0, none⟩) n cap) f → Calls Try.prog 38 #[.slice (some ⟨g, 0, none⟩) n cap, .int .i64 i, .int .i64 ((i : Int) + 1)] w' fun e w2 => ∃ v', e = .returned v' ∧ OwnB (w.heap.size + 1) w2 v' (f.eraseIdx i) ∧ Below (w.heap.size + 1) w' w2) := fun w' hw => delete_any _ _ f i w' hw (by rw [← hn.out]; exact hif) (by rw [← hn.out]; omega)
        go_wp2_with fail
        refine (hdel.out _ hob3).mono ?_
        rintro e w6 ⟨v6, rfl, hown6, hb6⟩
        have hro6 := hrw3.below hb6 (by omega)
        have hbe6 := hbw3.trans (hb6.mono (by omega))
        have hcc0 : w6.cell? ⟨w.heap.size, 0, none⟩ = some (.int .i64 (min x px)) := by rw [hro6.cell]; rfl
        have hcc1 : w6.cell? ⟨w.heap.size, 1, none⟩ = some (.int .i64 (py + 1)) := by rw [hro6.cell]; rfl
        have hel : (f.eraseIdx i).length = n - 1 := by rw [List.length_eraseIdx_of_lt (by rw [← hn.out]; exact hif), ← hn.out]
        go_wp2_with fail
        refine (buddyOf_any _ (f.eraseIdx i) _ _ _ (hown6.blocks (by omega)) (HA.out.erase i)).mono ?_
        rintro e w7 ⟨rfl, hb7⟩
        go_wp2
        go_roundw
        case rel => exact ⟨f.eraseIdx i, min x px, py + 1, hown6.below hb7, rfl, hro6.below hb7 hro6.lt, HJ, HA.out.erase i, by omega, hbe6.trans (hb7.mono hbe6.size)⟩
        case measure =>
          have := hown6.slen
          show slen v6 < n
          omega
    · have hm1 : budIx x y f = -1 := by omega
      have HR : Hid (J = (f, x, y)) := by
        show _ = _
        rw [← hj.out]
        cases hf : f.length with
        | zero => rfl
        | succ m => rw [joinF, if_neg hpos]
      rw [hm1]
      clear hj hsl hbd hpos hm1
      go_wp2_with fail
      refine (binsert_any (w.heap.size + 1) _ f x y wr hown (by omega) (by have := hrow.lt; omega)).mono ?_
      rintro e w6 ⟨v6, rfl, hown6, hb6⟩
      go_wp2
      go_ret2
      refine ⟨v6, rfl, ?_, hbel.trans (hb6.mono (by omega))⟩
      rw [HR.out]
      exact hown6

/-- What Give leaves free. -/
def giveL (l : List (Int × Int)) (x y : Int) : List (Int × Int) := if rightB l && isBlk x y && !l.any (meets x y) then giveIn (giveJ l x y) else []
/-- What Give answers besides. -/
def giveE (l : List (Int × Int)) (x y : Int) : Int := if rightB l then if isBlk x y then if l.any (meets x y) then 7 else 0 else 2 else 1

set_option maxHeartbeats 800000 in
theorem give_any (v : Value) (l : List (Int × Int)) (x y : Int) (w : World) (h : IsBlocks w v l) :
    Calls Try.prog 21 #[v, .agg #[.int .i64 x, .int .i64 y]] w fun e w' => ∃ v', e = .returned (.tuple #[v', .int .i64 (giveE l x y)]) ∧ OwnB w.heap.size w' v' (giveL l x y) ∧ Below w.heap.size w w' := by
  have hnil : ∀ w', OwnB w.heap.size w' (.slice none 0 0) [] := fun w' => ⟨rfl, Or.inl ⟨rfl, rfl⟩⟩
  have HI : Hid (IsBlocks w v l) := h
  have hbA : Below w.heap.size w (w.alloc (.cells #[.int .i64 x, .int .i64 y] 45)) := (Below.refl _ _).alloc (Nat.le_refl _) _
  have hro : OwnRow (w.alloc (.cells #[.int .i64 x, .int .i64 y] 45)) w.heap.size 45 [.int .i64 x, .int .i64 y] := heap_alloc_new w _
  by_cases hr : rightB l = true
  · by_cases hb : isBlk x y = true
    · by_cases ht : l.any (meets x y) = true
      · have he : giveE l x y = 7 := by simp [giveE, hr, hb, ht]
        have hL : giveL l x y = [] := by simp [giveL, ht]
        rw [he, hL]
        have hA := rightB_blk hr
        clear h he hL
        obtain ⟨w0, hw0⟩ : ∃ w0, w0 = w.alloc (.cells #[.int .i64 x, .int .i64 y] 45) := ⟨_, rfl⟩
        go_enter Try.func21, Try.ntmps21
        go_wp2_with fail
        rw [← hw0] at hro hbA ⊢
        clear hw0
        refine (right_is _ l _ (HI.out.below hbA) hr).mono ?_
        rintro e w1 ⟨rfl, hb1⟩
        have hro1 := hro.below hb1 hro.lt
        have hbA1 := hbA.trans (hb1.mono hbA.size)
        have hc0 : w1.cell? ⟨w.heap.size, 0, none⟩ = some (.int .i64 x) := by rw [hro1.cell]; rfl
        have hc1 : w1.cell? ⟨w.heap.size, 1, none⟩ = some (.int .i64 y) := by rw [hro1.cell]; rfl
        go_wp2_with fail
        refine (isBlock_is _ _ _ hb).mono ?_
        rintro e w2 ⟨rfl, hb2⟩
        have hro2 := hro1.below hb2 hro1.lt
        have hbA2 := hbA1.trans (hb2.mono hbA1.size)
        clear hc0 hc1
        have hc0 : w2.cell? ⟨w.heap.size, 0, none⟩ = some (.int .i64 x) := by rw [hro2.cell]; rfl
        have hc1 : w2.cell? ⟨w.heap.size, 1, none⟩ = some (.int .i64 y) := by rw [hro2.cell]; rfl
        go_wp2_with fail
        refine (touches_is _ l _ _ _ (HI.out.below hbA2) hb hA ht).mono ?_
        rintro e w3 ⟨rfl, hb3⟩
        go_wp2
        go_ret2
        exact ⟨_, rfl, hnil _, hbA2.trans (hb3.mono hbA2.size)⟩
      · have ht' : l.any (meets x y) = false := by simpa using ht
        have he : giveE l x y = 0 := by simp [giveE, hr, hb, ht']
        have hL : giveL l x y = giveIn (giveJ l x y) := by simp [giveL, hr, hb, ht']
        rw [he, hL]
        refine (give_ok v l x y w h hr hb ht').mono ?_
        rintro e w' ⟨v', rfl, ho, hb⟩
        exact ⟨v', rfl, ho.mono (by omega), hb⟩
    · have hb' : isBlk x y = false := by simpa using hb
      have he : giveE l x y = 2 := by simp [giveE, hr, hb']
      have hL : giveL l x y = [] := by simp [giveL, hb']
      rw [he, hL]
      clear h he hL hb
      obtain ⟨w0, hw0⟩ : ∃ w0, w0 = w.alloc (.cells #[.int .i64 x, .int .i64 y] 45) := ⟨_, rfl⟩
      go_enter Try.func21, Try.ntmps21
      go_wp2_with fail
      rw [← hw0] at hro hbA ⊢
      clear hw0
      refine (right_is _ l _ (HI.out.below hbA) hr).mono ?_
      rintro e w1 ⟨rfl, hb1⟩
      have hro1 := hro.below hb1 hro.lt
      have hbA1 := hbA.trans (hb1.mono hbA.size)
      have hc0 : w1.cell? ⟨w.heap.size, 0, none⟩ = some (.int .i64 x) := by rw [hro1.cell]; rfl
      have hc1 : w1.cell? ⟨w.heap.size, 1, none⟩ = some (.int .i64 y) := by rw [hro1.cell]; rfl
      go_wp2_with fail
      refine (isBlock_is _ _ _ hb').mono ?_
      rintro e w2 ⟨rfl, hb2⟩
      go_wp2
      go_ret2
      exact ⟨_, rfl, hnil _, hbA1.trans (hb2.mono hbA1.size)⟩
  · have hr' : rightB l = false := by simpa using hr
    have he : giveE l x y = 1 := by simp [giveE, hr']
    have hL : giveL l x y = [] := by simp [giveL, hr']
    rw [he, hL]
    clear h he hL hr
    obtain ⟨w0, hw0⟩ : ∃ w0, w0 = w.alloc (.cells #[.int .i64 x, .int .i64 y] 45) := ⟨_, rfl⟩
    go_enter Try.func21, Try.ntmps21
    go_wp2_with fail
    rw [← hw0] at hro hbA ⊢
    clear hw0
    refine (right_is _ l _ (HI.out.below hbA) hr').mono ?_
    rintro e w1 ⟨rfl, hb1⟩
    go_wp2
    go_ret2
    exact ⟨_, rfl, hnil _, hbA.trans (hb1.mono hbA.size)⟩

end Go.Proofs.Yticmloddkngfnah

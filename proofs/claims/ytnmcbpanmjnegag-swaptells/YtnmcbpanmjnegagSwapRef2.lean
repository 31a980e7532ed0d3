/- The contract of framewardenref.LPut. -/
import Derived.Test.YtnmcbpanmjnegagSwap3
namespace Go.Proofs.Ytnmcbpanmjnegag
open Go.RowKit
set_option linter.unusedSimpArgs false
set_option linter.unusedVariables false

/-- The beginning of a slice. -/
theorem recs_init {w : World} {b off cap B : Nat} {L : List V3} (hc : ∀ j u, (flatL encS L)[j]? = some u → w.cell? ⟨b, off + j, none⟩ = some u) (k : Nat) (hk : k ≤ L.length) (hcap : L.length ≤ cap) (hB : L.length ≤ B) : IsRecs encS B w (.slice (some ⟨b, off, none⟩) k cap) (L.take k) := by
  have hl : (L.take k).length = k := by rw [List.length_take]; omega
  refine ⟨_, cap, by rw [hl], by omega, by omega, fun _ => ⟨b, off, rfl, fun j u hj => ?_⟩⟩
  have := recs_part shS hc 0 k j u (by simpa using hj)
  simpa using this

/-- The end of a slice. -/
theorem recs_rest {w : World} {b off cap B : Nat} {L : List V3} (hc : ∀ j u, (flatL encS L)[j]? = some u → w.cell? ⟨b, off + j, none⟩ = some u) (k n : Nat) (hn : n = L.length - k) (hcap : n ≤ cap) (hB : L.length ≤ B) (A : Addr) (hA : 0 < n → A = ⟨b, off + k * 3, none⟩) : IsRecs encS B w (.slice (some A) n cap) (L.drop k) := by
  have hl : (L.drop k).length = n := by rw [List.length_drop]; omega
  refine ⟨_, cap, by rw [hl], by omega, by omega, fun hp => ⟨b, off + k * 3, by rw [hA (by omega)], fun j u hj => ?_⟩⟩
  have := recs_part shS hc k n j u (by rw [List.take_of_length_le (by omega)]; exact hj)
  exact this

theorem box3 (W : World) (s : Nat) (hs : s = W.heap.size) (x : V3) (ty : TypeId) : ∀ j u, (encS x)[j]? = some u → (W.alloc (.cells #[.int .i64 x.1, .slice x.2.1.1 x.2.1.2.1 x.2.1.2.2, .slice x.2.2.1 x.2.2.2.1 x.2.2.2.2] ty)).cell? (Addr.add ⟨s, 0, none⟩ j) = some u := by
  intro j v hj
  subst hs
  rw [add_none, Nat.zero_add]
  have : OwnRow (W.alloc (.cells #[.int .i64 x.1, .slice x.2.1.1 x.2.1.2.1 x.2.1.2.2, .slice x.2.2.1 x.2.2.2.1 x.2.2.2.2] ty)) W.heap.size ty (encS x) := heap_alloc_new W _
  rw [this.cell, hj]

/-- A row of the call's own, one of its slots another. -/
theorem set_slots {w w' : World} {L : List V3} {l : List Sl} {k : Nat} {x : V3} {y : Sl} {v : Value} (hL : L.length = l.length) (hk : k < l.length) (hR : ∀ i, i < l.length → Rd w (L.getD i v0) (l.getD i z0)) (hb : Below w.heap.size w w') (hx : Rd w' x y) (hv : IsRecs encS 2513169434843 w' v (L.set k x)) : IsSlots w' v (l.set k y) := by
  refine ⟨L.set k x, by simp [hL], hv, fun i hi => ?_⟩
  rw [List.length_set] at hi
  by_cases he : k = i
  · subst he
    rw [getD_set_self hk, List.getD_eq_getElem?_getD, List.getElem?_set_self (by omega)]
    exact hx
  · rw [getD_set_other he, List.getD_eq_getElem?_getD, List.getElem?_set_ne he, ← List.getD_eq_getElem?_getD]
    exact (hR i hi).below hb

set_option maxHeartbeats 1600000 in
theorem lput_any (v bv tv : Value) (l : List Sl) (bs ts : List Int) (r : Int) (w : World) (h : IsSlots w v l) (hb : IsBytes w bv bs) (ht : IsRecs encI 17592186043904 w tv ts) :
    Calls Try.prog 14 #[v, bv, tv, .int .i64 r] w fun e w' => ∃ a N c m n err, e = .returned (.tuple #[.slice a N c, .int .i64 n, .int .i64 err]) ∧ IsSlots w' (.slice a N c) m ∧ PutSays l bs ts r m n err ∧ Below w.heap.size w w' := by
  obtain ⟨i0, hi, hz0, hz1, hz2⟩ := info_parts info_slot
  have HBY : Hid (IsBytes w bv bs) := hb
  have HTY : Hid (IsRecs encI 17592186043904 w tv ts) := ht
  obtain ⟨L, hL, ⟨a, cap, rfl, h1, hl, hc'⟩, hR⟩ := h
  obtain ⟨ba, bc, rfl⟩ := hb.form'
  obtain ⟨ta, tc, rfl⟩ := ht.form
  have hbl : bs.length ≤ 140737488351232 := by obtain ⟨_, _, _, _, h2, _⟩ := hb; exact h2
  have htl := ht.len
  clear hb ht
  have HB : Hid (putOk bs ts r = (decide (bs.length = 64) && (decide (ts.length = 4) && (decide (1 ≤ r) && decide (r ≤ 4))))) := rfl
  obtain ⟨N, hN⟩ : ∃ N, Hid (N = l.length) := ⟨_, rfl⟩
  have HL : Hid (N = L.length) := hN.out.trans hL.symm
  have HR : Hid (∀ i, i < l.length → Rd w (L.getD i v0) (l.getD i z0)) := hR
  obtain ⟨nb, hnb⟩ : ∃ N, Hid (N = bs.length) := ⟨_, rfl⟩
  obtain ⟨nt, hnt⟩ : ∃ N, Hid (N = ts.length) := ⟨_, rfl⟩
  rw [← hnb.out] at HBY HB hbl ⊢
  rw [← hnt.out] at HTY HB htl ⊢
  rw [← HL.out] at hl hc' h1 ⊢
  clear hR hL
  by_cases c1 : nb = 64
  · by_cases c2 : nt = 4
    · by_cases c3 : 1 ≤ r
      · by_cases c4 : r ≤ 4
        · subst c1
          subst c2
          have HK : Hid (putOk bs ts r = true) := by show _ = _; rw [HB.out, decide_eq_true c3, decide_eq_true c4]; rfl
          clear HB
          go_enter Try.func14, Try.ntmps14
          go_wp2_with fail
          go_loopw [32] (fun i wr => ∃ (k : Nat), k ≤ N ∧ i = .int .i64 k ∧ Hid (∀ j, j < k → 1 ≤ (l.getD j z0).1) ∧ Below w.heap.size w wr) (fun i _ => N - (intOf i).toNat)
          case atStart => exact ⟨0, Nat.zero_le _, rfl, fun j hj => by omega, Below.refl _ _⟩
          case round =>
            obtain ⟨k, hk, rfl, hal, hbel⟩ := hrel
            by_cases hlt : k < N
            · have hkl : k < l.length := by rw [← hN.out]; exact hlt
              obtain ⟨b, off, rfl, hc⟩ := hc' (by omega)
              obtain ⟨⟨rk, ⟨pa, pn, pc⟩, ⟨qa, qn, qc⟩⟩, hp⟩ : ∃ q, q = L.getD k v0 := ⟨_, rfl⟩
              obtain ⟨hk0, hk1, hk2⟩ := cell3 hc hbel k (by rw [← HL.out]; exact hlt) hp
              have hrk := (HR.out k hkl).1
              rw [← hp] at hrk
              simp only at hrk
              have HRK : Hid (rk = (l.getD k z0).1) := hrk
              clear hrk hp hc'
              by_cases hq : 1 ≤ rk
              · have HA : Hid (∀ j, j < k + 1 → 1 ≤ (l.getD j z0).1) := fun j hj => by
                  by_cases he : j = k
                  · rw [he, ← HRK.out]; exact hq
                  · exact hal.out j (by omega)
                clear hc
                go_wp2
                go_roundw
                case rel => exact ⟨k + 1, by omega, by go_num, HA.out, hbel.alloc hbel.size _⟩
                case measure => simp [intOf]; omega
              · have HLe : Hid (Least l k) := ⟨hkl, by rw [← HRK.out]; omega, hal.out⟩
                have hq' : rk < 1 := by omega
                have HC : Hid (∀ j u, (flatL encS L)[j]? = some u → w.cell? ⟨b, off + j, none⟩ = some u) := hc
                have HI1 : Hid (IsRecs encS 2513169434843 w (.slice (some ⟨b, off, none⟩) k cap) (L.take k)) := recs_init hc k (by rw [← HL.out]; omega) (by rw [← HL.out]; omega) (by rw [← HL.out]; exact hl)
                have htk : (L.take k).length = k := by rw [List.length_take, ← HL.out]; omega
                have HTK : Hid ((L.take k).length = k) := htk
                clear hc hq htk
                have hbz : Below w.heap.size w (wr.alloc (.cells #[.int .i64 rk, .slice pa pn pc, .slice qa qn qc] 42)) := hbel.alloc hbel.size _
                have hbz2 : Below w.heap.size w ((wr.alloc (.cells #[.int .i64 rk, .slice pa pn pc, .slice qa qn qc] 42)).alloc (.cells #[] 42)) := hbz.alloc hbz.size _
                have HOW : Hid (OwnR 42 3 encS w.heap.size ((wr.alloc (.cells #[.int .i64 rk, .slice pa pn pc, .slice qa qn qc] 42)).alloc (.cells #[] 42)) (.slice (some ⟨wr.heap.size + 1, 0, none⟩) 0 0) ([] : List V3)) := by
                  have := World.ownsRow_made (base := w.heap.size) (e := 42) (size := 3) (wr.alloc (.cells #[.int .i64 rk, .slice pa pn pc, .slice qa qn qc] 42)) #[] 0 hbz.size (Nat.zero_le _) (by simp)
                  simpa [OwnR, flatL, Hid] using this
                have HI2 : Hid (IsRecs encS 2513169434843 ((wr.alloc (.cells #[.int .i64 rk, .slice pa pn pc, .slice qa qn qc] 42)).alloc (.cells #[] 42)) (.slice (some ⟨b, off, none⟩) k cap) (L.take k)) := HI1.out.below hbz2
                have HN1 : Hid ((([] : List V3).length + (L.take k).length) * 56 ≤ 140737488355328 ∧ ([] : List V3).length + (L.take k).length ≤ maxLen) := by
                  show _ ∧ _
                  rw [HTK.out]; unfold maxLen; simp; omega
                have HN2 : Hid (((L.take k).length + 1) * 56 ≤ 140737488355328 ∧ (L.take k).length + 1 ≤ maxLen) := by
                  show _ ∧ _
                  rw [HTK.out]; unfold maxLen; omega
                have HZ : Hid (w.heap.size ≤ ((wr.alloc (.cells #[.int .i64 rk, .slice pa pn pc, .slice qa qn qc] 42)).alloc (.cells #[] 42)).heap.size) := hbz2.size
                obtain ⟨A, hA, hAd⟩ : ∃ A : Addr, (if cap = k + 1 then some (⟨b, off, none⟩ : Addr) else some ⟨b, off + (k + 1) * 3, none⟩) = some A ∧ Hid (A = if cap = k + 1 then ⟨b, off, none⟩ else ⟨b, off + (k + 1) * 3, none⟩) := by
                  by_cases hcp : cap = k + 1
                  · rw [if_pos hcp]; exact ⟨_, rfl, (if_pos hcp).symm⟩
                  · rw [if_neg hcp]; exact ⟨_, rfl, (if_neg hcp).symm⟩
                have HI3 : Hid (∀ w2, Below w.heap.size w w2 → IsRecs encS 2513169434843 w2 (.slice (some A) (N - (k + 1)) (cap - (k + 1))) (L.drop (k + 1))) := fun w2 hb2 =>
                  (recs_rest HC.out (k + 1) _ (by rw [← HL.out]) (by omega) (by rw [← HL.out]; exact hl) A (fun hp => by rw [hAd.out, if_neg (by omega)])).below hb2
                have HN3 : Hid (((L.take k ++ [(r, (ba, 64, bc), (ta, 4, tc))] : List V3).length + (L.drop (k + 1)).length) * 56 ≤ 140737488355328 ∧ (L.take k ++ [(r, (ba, 64, bc), (ta, 4, tc))] : List V3).length + (L.drop (k + 1)).length ≤ maxLen) := by
                  show _ ∧ _
                  rw [List.length_append, HTK.out, List.length_drop, ← HL.out]; unfold maxLen; simp; omega
                have HST : Hid (L.take k ++ [(r, (ba, 64, bc), (ta, 4, tc))] ++ L.drop (k + 1) = L.set k (r, (ba, 64, bc), (ta, 4, tc))) := by
                  show _ = _
                  rw [List.set_eq_take_append_cons_drop, if_pos (by rw [← HL.out]; exact hlt)]; simp
                go_wp2_with (at_builtin; first
                  | (refine wpList_append_recs shS rfl _ _ 30 42 i0 _ 56 rfl Try.underlying30 hi hz0 hz1 hz2 rfl w.heap.size v2 (L.take k ++ [(r, (ba, 64, bc), (ta, 4, tc))]) rfl HO2.out 2513169434843 (.slice (some A) (N - (k + 1)) (cap - (k + 1))) (L.drop (k + 1)) rfl (HI3.out w2 hb2) HN3.out.1 HN3.out.2 hb2.size ?_; intro v3 w3 hown3 hb3'; have hb3 : Below w.heap.size w w3 := hb2.trans hb3'; have HO3 : Hid (OwnR 42 3 encS w.heap.size w3 v3 (L.take k ++ [(r, (ba, 64, bc), (ta, 4, tc))] ++ L.drop (k + 1))) := hown3; clear hown3 hb3'; obtain ⟨va, vn, vc, rfl⟩ : ∃ va vn vc, v3 = .slice va vn vc := by (obtain ⟨x1, x2, hx⟩ := HO3.out.form; exact ⟨_, _, _, hx⟩))
                  | (refine wpList_append_rec shS rfl _ _ 30 42 i0 _ 56 rfl Try.underlying30 hi hz0 hz1 hz2 rfl w.heap.size v1 (L.take k) rfl w1 HO1.out ((Below.refl _ _).alloc (Nat.le_refl _) _) hb1.size HN2.out.1 HN2.out.2 (r, (ba, 64, bc), (ta, 4, tc)) ⟨w1.heap.size, 0, none⟩ 1 rfl (box3 w1 _ rfl _ _) ?_; intro v2 w2 hown2 hb2'; have hb2 : Below w.heap.size w w2 := (hb1.alloc hb1.size _).trans hb2'; have HO2 : Hid (OwnR 42 3 encS w.heap.size w2 v2 (L.take k ++ [(r, (ba, 64, bc), (ta, 4, tc))])) := hown2; clear hown2 hb2')
                  | (refine wpList_append_recs shS rfl _ _ 30 42 i0 _ 56 rfl Try.underlying30 hi hz0 hz1 hz2 rfl w.heap.size _ ([] : List V3) rfl HOW.out 2513169434843 _ (L.take k) rfl HI2.out HN1.out.1 HN1.out.2 HZ.out ?_; intro v1 w1 hown1 hb1'; have hb1 : Below w.heap.size w w1 := hbz2.trans hb1'; have HO1 : Hid (OwnR 42 3 encS w.heap.size w1 v1 (L.take k)) := hown1; clear hown1 hb1'))
                go_ret3
                have ho := HO3.out
                rw [HST.out] at ho
                have hln : (L.set k (r, (ba, 64, bc), (ta, 4, tc))).length ≤ 2513169434843 := by rw [List.length_set, ← HL.out]; exact hl
                have hs : IsSlots w3 (.slice va vn vc) (l.set k (r, bs, ts)) := set_slots (x := (r, (ba, 64, bc), (ta, 4, tc))) (y := (r, bs, ts)) (HL.out.symm.trans hN.out) hkl HR.out hb3 ⟨rfl, HBY.out.below hb3, HTY.out.below hb3⟩ (ho.recs hln)
                exact ⟨_, _, _, _, _, _, rfl, hs, Or.inr (Or.inr ⟨HK.out, k, HLe.out, rfl, rfl, rfl⟩), hb3⟩
            · have HA : Hid (AllM l) := fun j hj => hal.out j (by rw [← hN.out] at hj; omega)
              go_wp2
              go_ret3
              exact ⟨_, _, _, [], _, _, rfl, isSlots_nil _ _ _, Or.inr (Or.inl ⟨HK.out, HA.out, rfl, rfl, rfl⟩), hbel⟩
        · have HK : Hid (putOk bs ts r = false) := by show _ = _; rw [HB.out, decide_eq_false c4]; simp
          clear HB
          subst c1
          subst c2
          go_enter Try.func14, Try.ntmps14
          go_wp2
          go_ret3
          exact ⟨_, _, _, [], _, _, rfl, isSlots_nil _ _ _, Or.inl ⟨HK.out, rfl, rfl, rfl⟩, Below.refl _ _⟩
      · have HK : Hid (putOk bs ts r = false) := by show _ = _; rw [HB.out, decide_eq_false c3]; simp
        clear HB
        subst c1
        subst c2
        go_enter Try.func14, Try.ntmps14
        go_wp2
        go_ret3
        exact ⟨_, _, _, [], _, _, rfl, isSlots_nil _ _ _, Or.inl ⟨HK.out, rfl, rfl, rfl⟩, Below.refl _ _⟩
    · have HK : Hid (putOk bs ts r = false) := by show _ = _; rw [HB.out, decide_eq_false c2]; simp
      have c2' : ¬ (nt : Int) = 4 := by omega
      clear HB
      subst c1
      go_enter Try.func14, Try.ntmps14
      go_wp2
      go_ret3
      exact ⟨_, _, _, [], _, _, rfl, isSlots_nil _ _ _, Or.inl ⟨HK.out, rfl, rfl, rfl⟩, Below.refl _ _⟩
  · have HK : Hid (putOk bs ts r = false) := by show _ = _; rw [HB.out, decide_eq_false c1]; simp
    have c1' : ¬ (nb : Int) = 64 := by omega
    clear HB
    go_enter Try.func14, Try.ntmps14
    go_wp2
    go_ret3
    exact ⟨_, _, _, [], _, _, rfl, isSlots_nil _ _ _, Or.inl ⟨HK.out, rfl, rfl, rfl⟩, Below.refl _ _⟩

end Go.Proofs.Ytnmcbpanmjnegag

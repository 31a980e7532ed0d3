/- The walk of FlatBack: what was stored is loaded. -/
import Derived.Test.YtbiipnojhjhejaaFlatBackP
namespace Go.Proofs.Ytbiipnojhjhejaa
set_option maxRecDepth 100000
open Go.RowKit
set_option linter.unusedSimpArgs false
set_option linter.unusedVariables false

theorem getD_two {α : Type} (A : List α) (x y z : α) (n : Nat) (hn : n = A.length) : (A ++ [x, y]).getD n z = x ∧ (A ++ [x, y]).getD (n + 1) z = y := by
  subst hn
  simp [List.getD_eq_getElem?_getD]

theorem two_rows (w : World) (xs ys : List Value) (e : TypeId) :
    OwnRow ((w.alloc (.cells xs.toArray e)).alloc (.cells ys.toArray e)).drew w.heap.size e xs ∧ OwnRow ((w.alloc (.cells xs.toArray e)).alloc (.cells ys.toArray e)).drew (w.heap.size + 1) e ys := by
  obtain ⟨h1, h2⟩ := own_two (w := w) (e := e) (e' := e) (xs := xs) (ys := ys) (Below.refl _ _)
  exact ⟨h1, h2⟩

theorem low_bytes (v : Int) (m : Int) (h0 : 0 < m) (h1 : m ∣ 18446744073709551616) (h2 : m ≤ 4294967296) : (v % m != wrap64 ((IntKind.u64.wrap v).tmod m)) = false := by
  have e : IntKind.u64.wrap v = v % 18446744073709551616 := by rw [IntKind.wrap_u64]
  have h3 := Int.emod_nonneg v (by decide : (18446744073709551616 : Int) ≠ 0)
  have e2 : (v % 18446744073709551616).tmod m = v % m := by rw [Int.tmod_eq_emod_of_nonneg h3, Int.emod_emod_of_dvd _ h1]
  have h4 := Int.emod_nonneg v (Int.ne_of_gt h0)
  have h5 := Int.emod_lt_of_pos v h0
  rw [e, e2, IntWalk.wrap64_in _ (by omega)]
  simp

set_option maxRecDepth 100000 in
set_option maxHeartbeats 3200000 in
theorem flatBack_walk (v : Value) (l : List O12) (o : O12) (w : World) (h : IsRecs encO 1466015503658 w v l) (hwf : ∀ x ∈ l, wfO x) (ho : wfO o) :
    Calls Try.prog 5 #[v, opV o] w fun e w' => e = .returned (.bool true) ∧ Below w.heap.size w w' := by
  obtain ⟨a, cap, rfl⟩ := h.form
  obtain ⟨i0, hi0, hz0, hz1, hz2⟩ := info_parts info_opz
  have HRUN : Hid (∀ w1, Below w.heap.size w w1 → Calls Try.prog 9 #[.slice a l.length cap] w1 fun e w' => ∃ a2 c2 X b2, e = .returned (.tuple #[.slice a2 l.length c2, .agg X]) ∧ Below w1.heap.size w1 w' ∧ ShowX b2 w' (run14 newW l).1 X) := fun w1 hb => (run14_showb _ l _ w1 (h.below hb) (by decide) (fun o ho => ⟨(hwf o ho).count, (hwf o ho).size⟩)).mono fun e w' ⟨a, c, X, b4, h1, h2, h3, h4⟩ => ⟨a, c, X, b4, h1, h3, h4⟩
  have hlen := h.len
  obtain ⟨o1, ho1⟩ : ∃ o1, o1 = asK o 11 := ⟨_, rfl⟩
  obtain ⟨o2, ho2⟩ : ∃ o2, o2 = asK o 10 := ⟨_, rfl⟩
  have HRU2 : Hid (∀ base w1 v1, OwnR 24 12 encO base w1 v1 (l ++ [o1, o2]) → Calls Try.prog 9 #[v1] w1 fun e w' => ∃ a2 c2 X b4, e = .returned (.tuple #[.slice a2 (l ++ [o1, o2]).length c2, .agg X]) ∧ OwnR 40 4 encA b4 w' (.slice a2 (l ++ [o1, o2]).length c2) (run14 newW (l ++ [o1, o2])).2 ∧ Below w1.heap.size w1 w' ∧ ShowX b4 w' (run14 newW (l ++ [o1, o2])).1 X) := fun base w1 v1 h1 => run14_showb _ (l ++ [o1, o2]) 1466015503700 w1 (h1.recs (by simp; omega)) (by decide) (fun x hx => by
        rcases List.mem_append.1 hx with hx | hx
        · exact ⟨(hwf x hx).count, (hwf x hx).size⟩
        · simp only [List.mem_cons, List.not_mem_nil, or_false] at hx
          rcases hx with rfl | rfl
          · rw [ho1]; exact ⟨ho.count, ho.size⟩
          · rw [ho2]; exact ⟨ho.count, ho.size⟩)
  have HCl0 : Hid (∀ w1, Below w.heap.size w w1 → Calls Try.prog 10 #[.slice a l.length cap] w1 fun e w' => ∃ v', e = .returned v' ∧ OwnR 24 12 encO w1.heap.size w' v' l ∧ Below w1.heap.size w1 w') := fun w1 hb => oclone_any _ l w1 (h.below hb)
  have hI : Inv (run14 newW l).1 := inv_run inv_new
  have HI : Hid (Inv (run14 newW l).1) := hI
  have HD : run14 newW (l ++ [o1, o2]) = ((do14 (do14 (run14 newW l).1 o1).1 o2).1, (run14 newW l).2 ++ [(do14 (run14 newW l).1 o1).2, (do14 (do14 (run14 newW l).1 o1).1 o2).2]) := run14_append l [o1, o2] newW
  have HI2 : Hid (Inv (do14 (do14 (run14 newW l).1 o1).1 o2).1) := inv_do (inv_do hI o1) o2
  rw [HD] at HRU2
  have hAl := run14_len l newW
  have HBK : Hid _ := fun h0 => do_back (S := (run14 newW l).1) o h0
  rw [← ho1, ← ho2] at HBK
  generalize (run14 newW l).1 = S at *
  generalize (run14 newW l).2 = A at *
  clear hI HD
  generalize do14 S o1 = D1 at *
  generalize do14 D1.1 o2 = D2 at *
  obtain ⟨S1, d1, d2, d3, d4⟩ := D1
  obtain ⟨S2, e1, e2, e3, e4⟩ := D2
  simp only at HRU2 HBK HI2
  have hN1 : (l ++ [o1, o2]).length = l.length + 2 := by simp
  rw [hN1] at HRU2
  have hl1 : (l.length + 2) * 96 ≤ 140737488355328 := by omega
  have hl2 : l.length + 2 ≤ maxLen := by unfold maxLen; omega
  have HL1 : Hid ((l.length + 2) * 96 ≤ 140737488355328) := hl1
  have HL2 : Hid (l.length + 2 ≤ maxLen) := hl2
  obtain ⟨n, hn⟩ : ∃ n, Hid (n = l.length) := ⟨_, rfl⟩
  rw [← hn.out] at HRUN HRU2 HCl0 hlen hAl
  rw [← hn.out]
  have HGET : Hid _ := getD_two A (d1, d2, d3, d4) (e1, e2, e3, e4) zAn n hAl.symm
  have HA2 : Hid ((A ++ [(d1, d2, d3, d4), (e1, e2, e3, e4)]).length = n + 2) := by show _ = _; simp; omega
  have HN : Hid (n ≤ 1466015503658 ∧ (A ++ [(d1, d2, d3, d4), (e1, e2, e3, e4)]).length = n + 2) := ⟨hlen, HA2.out⟩
  clear h hwf hl1 hl2 hN1 hAl HA2 hlen
  obtain ⟨kind, proc, page, count, rights, key, tagged, draw, addr, size, value, tag⟩ := o
  subst ho1
  subst ho2
  simp only [asK] at HRU2
  go_enter Try.func5, Try.ntmps5
  go_wp2_with fail
  refine (alive14_any _).mono ?_
  rintro e w1 ⟨rfl, hb1⟩
  have hr := own_one (xs := encO (⟨kind, proc, page, count, rights, key, tagged, draw, addr, size, value, tag⟩ : O12)) hb1
  have hf := hr.free 0
  have hbw1 : Below w.heap.size w w1 := below_one hb1
  obtain ⟨⟨x0, x1, x2, x3, x4, x5⟩, x6, x7, x8, x9, x10, x11⟩ := hr.twelve
  have hlt := hr.lt
  clear hb1
  go_wp2_with fail
  clear x0 x1 x2 x3 x4 x5 x6 x7 x8 x9 x10 x11
  have hr3 : OwnRow (w1.setCell ⟨w.heap.size, 0, none⟩ (.int .i64 11)) w.heap.size 24 (encO (⟨11, proc, page, count, rights, key, tagged, draw, addr, size, value, tag⟩ : O12)) := hr.set 0 _
  have hbP : Below w.heap.size w ((w1.setCell ⟨w.heap.size, 0, none⟩ (.int .i64 11)).alloc (.cells #[.int .i64 10, .int .i64 proc, .int .i64 page, .int .i64 count, .int .i64 rights, .int .i64 key, .bool tagged, .int .i64 draw, .int .i64 addr, .int .i64 size, .int .i64 value, .int .i64 tag] 24)) := (hbw1.setCell (Nat.le_refl _) _).alloc (by have := hbw1.size; simpa [World.setCell] using this) _
  have hr5 : OwnRow ((w1.setCell ⟨w.heap.size, 0, none⟩ (.int .i64 11)).alloc (.cells #[.int .i64 10, .int .i64 proc, .int .i64 page, .int .i64 count, .int .i64 rights, .int .i64 key, .bool tagged, .int .i64 draw, .int .i64 addr, .int .i64 size, .int .i64 value, .int .i64 tag] 24)) w1.heap.size 24 (encO (⟨10, proc, page, count, rights, key, tagged, draw, addr, size, value, tag⟩ : O12)) := by
    have := heap_alloc_new (w1.setCell ⟨w.heap.size, 0, none⟩ (.int .i64 11)) (.cells #[.int .i64 10, .int .i64 proc, .int .i64 page, .int .i64 count, .int .i64 rights, .int .i64 key, .bool tagged, .int .i64 draw, .int .i64 addr, .int .i64 size, .int .i64 value, .int .i64 tag] 24)
    rw [show (w1.setCell ⟨w.heap.size, 0, none⟩ (.int .i64 11)).heap.size = w1.heap.size by simp [World.setCell]] at this
    exact this
  have hr3' : OwnRow ((w1.setCell ⟨w.heap.size, 0, none⟩ (.int .i64 11)).alloc (.cells #[.int .i64 10, .int .i64 proc, .int .i64 page, .int .i64 count, .int .i64 rights, .int .i64 key, .bool tagged, .int .i64 draw, .int .i64 addr, .int .i64 size, .int .i64 value, .int .i64 tag] 24)) w.heap.size 24 (encO (⟨11, proc, page, count, rights, key, tagged, draw, addr, size, value, tag⟩ : O12)) := hr3.below ((Below.refl _ _).alloc (Nat.le_refl _) _) hr3.lt
  obtain ⟨b5, hb5⟩ : ∃ b, w1.heap.size = b := ⟨_, rfl⟩
  rw [hb5] at hr5 ⊢
  generalize ((w1.setCell ⟨w.heap.size, 0, none⟩ (.int .i64 11)).alloc (.cells #[.int .i64 10, .int .i64 proc, .int .i64 page, .int .i64 count, .int .i64 rights, .int .i64 key, .bool tagged, .int .i64 draw, .int .i64 addr, .int .i64 size, .int .i64 value, .int .i64 tag] 24)) = wP at hbP hr5 hr3' ⊢
  clear hr hr3 hf hbw1 hlt hb5 w1
  refine (HRUN.out _ hbP).mono ?_
  rintro e w3 ⟨a2, c2, X, zX, rfl, hb3, hsX⟩
  have HX : Hid ((Try.prog.info? 34).map (·.size) = some X.size ∧ X.size = 44 ∧ X.all (·.oneCell') = true) := show_facts hsX
  obtain ⟨W0, hA⟩ : ∃ wA, wA = w3.alloc (.cells X 34) := ⟨_, rfl⟩
  have hgX : W0.heap[w3.heap.size]? = some (.cells X 34 (0, 0)) := by rw [hA]; exact heap_alloc_new w3 _
  have hbPX : Below wP.heap.size wP W0 := by rw [hA]; exact hb3.alloc hb3.size _
  have hb0 : Below w.heap.size w W0 := hbP.trans (hbPX.mono hbP.size)
  have HX0 : Hid (ShowX zX W0 S X) := by rw [hA]; exact hsX.below ((Below.refl _ _).alloc (Nat.le_refl _) _)
  have HA0 : Hid (w3.alloc (.cells X 34) = W0) := hA.symm
  have HS0 : Hid (∀ w', Below W0.heap.size W0 w' → ((w'.cell? ⟨w.heap.size, 0, none⟩ = some (.int .i64 11) ∧ w'.cell? ⟨w.heap.size, 1, none⟩ = some (.int .i64 proc) ∧ w'.cell? ⟨w.heap.size, 2, none⟩ = some (.int .i64 page) ∧ w'.cell? ⟨w.heap.size, 3, none⟩ = some (.int .i64 count) ∧ w'.cell? ⟨w.heap.size, 4, none⟩ = some (.int .i64 rights) ∧ w'.cell? ⟨w.heap.size, 5, none⟩ = some (.int .i64 key) ∧ w'.cell? ⟨w.heap.size, 6, none⟩ = some (.bool tagged) ∧ w'.cell? ⟨w.heap.size, 7, none⟩ = some (.int .i64 draw) ∧ w'.cell? ⟨w.heap.size, 8, none⟩ = some (.int .i64 addr) ∧ w'.cell? ⟨w.heap.size, 9, none⟩ = some (.int .i64 size) ∧ w'.cell? ⟨w.heap.size, 10, none⟩ = some (.int .i64 value) ∧ w'.cell? ⟨w.heap.size, 11, none⟩ = some (.int .i64 tag)) ∧ (w'.cell? ⟨b5, 0, none⟩ = some (.int .i64 10) ∧ w'.cell? ⟨b5, 1, none⟩ = some (.int .i64 proc) ∧ w'.cell? ⟨b5, 2, none⟩ = some (.int .i64 page) ∧ w'.cell? ⟨b5, 3, none⟩ = some (.int .i64 count) ∧ w'.cell? ⟨b5, 4, none⟩ = some (.int .i64 rights) ∧ w'.cell? ⟨b5, 5, none⟩ = some (.int .i64 key) ∧ w'.cell? ⟨b5, 6, none⟩ = some (.bool tagged) ∧ w'.cell? ⟨b5, 7, none⟩ = some (.int .i64 draw) ∧ w'.cell? ⟨b5, 8, none⟩ = some (.int .i64 addr) ∧ w'.cell? ⟨b5, 9, none⟩ = some (.int .i64 size) ∧ w'.cell? ⟨b5, 10, none⟩ = some (.int .i64 value) ∧ w'.cell? ⟨b5, 11, none⟩ = some (.int .i64 tag))) ∧ Below W0.heap.size W0 w') := fun w' hb => by
    have q3 := hr3'.below hbPX hr3'.lt
    have q5 := hr5.below hbPX hr5.lt
    obtain ⟨⟨x0, x1, x2, x3, x4, x5⟩, x6, x7, x8, x9, x10, x11⟩ := OwnRow.twelve (q3.below hb q3.lt)
    obtain ⟨⟨y0, y1, y2, y3, y4, y5⟩, y6, y7, y8, y9, y10, y11⟩ := OwnRow.twelve (q5.below hb q5.lt)
    exact ⟨⟨⟨x0, x1, x2, x3, x4, x5, x6, x7, x8, x9, x10, x11⟩, ⟨y0, y1, y2, y3, y4, y5, y6, y7, y8, y9, y10, y11⟩⟩, hb⟩
  have HCl : Hid (∀ w1, Below W0.heap.size W0 w1 → Calls Try.prog 10 #[.slice a n cap] w1 fun e w' => ∃ v', e = .returned v' ∧ OwnR 24 12 encO W0.heap.size w' v' l ∧ Below w1.heap.size w1 w' ∧ W0.heap.size ≤ w'.heap.size) := fun w1 hb => by
    refine (HCl0.out w1 (hb0.trans (hb.mono hb0.size))).mono ?_
    rintro e w' ⟨v', he, ho, hb2⟩
    exact ⟨v', he, ho.mono hb.size, hb2, Nat.le_trans hb.size hb2.size⟩
  clear HCl0 hA hsX hb3 hr3' hr5 hbPX HRUN
  go_wp2_with (refine wpList_store_row rfl 34 (.tmp 7) _ rfl w3.heap.size X rfl rfl 34 _ (heap_alloc_new w3 _) HX.out.1 (by rw [HX.out.2.1]; rfl) HX.out.2.2 ?_; rw [World.setRow_alloc_new, HA0.out])
  have HGA : Hid (W0.heap[w3.heap.size]? = some (.cells X 34 (0, 0)) ∧ w3.heap.size < W0.heap.size) := ⟨hgX, (Array.getElem?_eq_some_iff.1 hgX).1⟩
  obtain ⟨bX, hbX⟩ : ∃ b, w3.heap.size = b := ⟨_, rfl⟩
  rw [hbX] at HGA ⊢
  clear hbX hgX HA0 w3 hbP wP
  refine Code.wp_mono (Q := fun e a' w' => e = .normal ∧ ∃ (b8 s20 : Nat) (a4 : Option Addr) (c4 base4 : Nat) (Y : Array Value) (v2 v3 : Value), a' = ⟨#[.slice a n cap, opV (⟨kind, proc, page, count, rights, key, tagged, draw, addr, size, value, tag⟩ : O12), undef, .pointer (some ⟨w.heap.size, 0, none⟩), .bool false, .pointer (some ⟨b5, 0, none⟩), .slice a2 n c2, .pointer (some ⟨bX, 0, none⟩), .slice a4 (n + 2) c4, .pointer (some ⟨b8, 0, none⟩), undef, undef, undef, undef, undef, undef, .bool true, .bool false, .pointer (some ⟨w.heap.size, 0, none⟩), .agg #[.int .i64 11, .int .i64 proc, .int .i64 page, .int .i64 count, .int .i64 rights, .int .i64 key, .bool tagged, .int .i64 draw, .int .i64 addr, .int .i64 size, .int .i64 value, .int .i64 tag], .pointer (some ⟨b5, 0, none⟩), .tuple #[.slice a2 n c2, .agg X], .slice a n cap, .tuple #[.slice a2 n c2, .agg X], .slice a2 n c2, .agg X, .tuple #[.slice a4 (n + 2) c4, .agg Y], .slice a n cap, v2, .agg #[.int .i64 11, .int .i64 proc, .int .i64 page, .int .i64 count, .int .i64 rights, .int .i64 key, .bool tagged, .int .i64 draw, .int .i64 addr, .int .i64 size, .int .i64 value, .int .i64 tag], .agg #[.int .i64 10, .int .i64 proc, .int .i64 page, .int .i64 count, .int .i64 rights, .int .i64 key, .bool tagged, .int .i64 draw, .int .i64 addr, .int .i64 size, .int .i64 value, .int .i64 tag], .slice (some ⟨s20, 0, none⟩) 2 2, v3, .tuple #[.slice a4 (n + 2) c4, .agg Y], .slice a4 (n + 2) c4, .agg Y, undef, undef, undef, undef, undef, undef, undef, undef, undef, undef, undef, undef, undef, undef, undef, undef, undef, undef, undef, undef, undef, undef, undef, undef, undef, undef, undef, undef, undef, undef, undef, undef, undef, undef, undef, undef, undef, undef, undef, undef, undef, undef, undef, undef, undef, undef, undef, undef, undef, undef, undef, undef, undef, undef, undef, undef, undef, undef, undef, undef, undef, undef, undef, undef, undef, undef, undef, undef, undef, undef, undef, undef, undef, undef, undef, undef, undef, undef, undef, undef, undef, undef, undef, undef, undef, undef, undef, undef, undef, undef, undef, undef, undef, undef, undef, undef, undef, undef, undef, undef, undef, undef, undef, undef, undef, undef, undef, undef, undef, undef, undef, undef, undef, undef, undef, undef, undef, undef, undef, undef, undef, undef, undef, undef, undef, undef, undef, undef, undef, undef, undef, undef, undef, undef, undef, undef, undef, undef, undef, undef, undef, undef, undef, undef, undef, undef, undef, undef, undef, undef, undef, undef, undef, undef, undef, undef, undef, undef, undef, undef, undef, undef, undef, undef, undef, undef, undef, undef], []⟩ ∧ (((w'.cell? ⟨w.heap.size, 0, none⟩ = some (.int .i64 11) ∧ w'.cell? ⟨w.heap.size, 1, none⟩ = some (.int .i64 proc) ∧ w'.cell? ⟨w.heap.size, 2, none⟩ = some (.int .i64 page) ∧ w'.cell? ⟨w.heap.size, 3, none⟩ = some (.int .i64 count) ∧ w'.cell? ⟨w.heap.size, 4, none⟩ = some (.int .i64 rights) ∧ w'.cell? ⟨w.heap.size, 5, none⟩ = some (.int .i64 key) ∧ w'.cell? ⟨w.heap.size, 6, none⟩ = some (.bool tagged) ∧ w'.cell? ⟨w.heap.size, 7, none⟩ = some (.int .i64 draw) ∧ w'.cell? ⟨w.heap.size, 8, none⟩ = some (.int .i64 addr) ∧ w'.cell? ⟨w.heap.size, 9, none⟩ = some (.int .i64 size) ∧ w'.cell? ⟨w.heap.size, 10, none⟩ = some (.int .i64 value) ∧ w'.cell? ⟨w.heap.size, 11, none⟩ = some (.int .i64 tag)) ∧ (w'.cell? ⟨b5, 0, none⟩ = some (.int .i64 10) ∧ w'.cell? ⟨b5, 1, none⟩ = some (.int .i64 proc) ∧ w'.cell? ⟨b5, 2, none⟩ = some (.int .i64 page) ∧ w'.cell? ⟨b5, 3, none⟩ = some (.int .i64 count) ∧ w'.cell? ⟨b5, 4, none⟩ = some (.int .i64 rights) ∧ w'.cell? ⟨b5, 5, none⟩ = some (.int .i64 key) ∧ w'.cell? ⟨b5, 6, none⟩ = some (.bool tagged) ∧ w'.cell? ⟨b5, 7, none⟩ = some (.int .i64 draw) ∧ w'.cell? ⟨b5, 8, none⟩ = some (.int .i64 addr) ∧ w'.cell? ⟨b5, 9, none⟩ = some (.int .i64 size) ∧ w'.cell? ⟨b5, 10, none⟩ = some (.int .i64 value) ∧ w'.cell? ⟨b5, 11, none⟩ = some (.int .i64 tag))) ∧ Below W0.heap.size W0 w') ∧ Fin w' b8 base4 (.slice a4 (n + 2) c4) (A ++ [(d1, d2, d3, d4), (e1, e2, e3, e4)]) S2 Y) ?_ ?_
  rotate_left
  · go_region_held3 (fun w' => ((w'.cell? ⟨w.heap.size, 0, none⟩ = some (.int .i64 11) ∧ w'.cell? ⟨w.heap.size, 1, none⟩ = some (.int .i64 proc) ∧ w'.cell? ⟨w.heap.size, 2, none⟩ = some (.int .i64 page) ∧ w'.cell? ⟨w.heap.size, 3, none⟩ = some (.int .i64 count) ∧ w'.cell? ⟨w.heap.size, 4, none⟩ = some (.int .i64 rights) ∧ w'.cell? ⟨w.heap.size, 5, none⟩ = some (.int .i64 key) ∧ w'.cell? ⟨w.heap.size, 6, none⟩ = some (.bool tagged) ∧ w'.cell? ⟨w.heap.size, 7, none⟩ = some (.int .i64 draw) ∧ w'.cell? ⟨w.heap.size, 8, none⟩ = some (.int .i64 addr) ∧ w'.cell? ⟨w.heap.size, 9, none⟩ = some (.int .i64 size) ∧ w'.cell? ⟨w.heap.size, 10, none⟩ = some (.int .i64 value) ∧ w'.cell? ⟨w.heap.size, 11, none⟩ = some (.int .i64 tag)) ∧ (w'.cell? ⟨b5, 0, none⟩ = some (.int .i64 10) ∧ w'.cell? ⟨b5, 1, none⟩ = some (.int .i64 proc) ∧ w'.cell? ⟨b5, 2, none⟩ = some (.int .i64 page) ∧ w'.cell? ⟨b5, 3, none⟩ = some (.int .i64 count) ∧ w'.cell? ⟨b5, 4, none⟩ = some (.int .i64 rights) ∧ w'.cell? ⟨b5, 5, none⟩ = some (.int .i64 key) ∧ w'.cell? ⟨b5, 6, none⟩ = some (.bool tagged) ∧ w'.cell? ⟨b5, 7, none⟩ = some (.int .i64 draw) ∧ w'.cell? ⟨b5, 8, none⟩ = some (.int .i64 addr) ∧ w'.cell? ⟨b5, 9, none⟩ = some (.int .i64 size) ∧ w'.cell? ⟨b5, 10, none⟩ = some (.int .i64 value) ∧ w'.cell? ⟨b5, 11, none⟩ = some (.int .i64 tag))) ∧ Below W0.heap.size W0 w')
      (exact HS0.out _ (by (repeat ((fail_if_success (exact Below.refl _ _)); (first | refine bl_drew ?_ | refine bl_alloc ?_ _ | (refine bl_row ?_ (by first | assumption | omega) _) | refine Below.trans ?_ (by assumption) | refine bl_trans ?_ (by assumption)))); exact Below.refl _ _))
      (first
      | (go_at_call 10; refine (HCl.out _ (by (repeat ((fail_if_success (exact Below.refl _ _)); (first | refine bl_drew ?_ | refine bl_alloc ?_ _ | (refine bl_row ?_ (by first | assumption | omega) _) | refine Below.trans ?_ (by assumption) | refine bl_trans ?_ (by assumption)))); exact Below.refl _ _)).mono ?_; rintro e w2 ⟨v2, rfl, ho2, hw2, hbs2⟩)
      | (first
          | (refine step_append_keepsN shO (by rfl) _ _ 22 24 i0 _ 96 (by rfl) Try.underlying22 hi0 hz0 hz1 hz2 rfl W0.heap.size v2 l (by rfl) w2 ho2 (by (repeat ((fail_if_success (exact Below.refl _ _)); (first | refine bl_drew ?_ | refine bl_alloc ?_ _ | (refine bl_row ?_ (by first | assumption | omega) _) | refine Below.trans ?_ (by assumption) | refine bl_trans ?_ (by assumption)))); exact Below.refl _ _) hbs2 [(⟨11, proc, page, count, rights, key, tagged, draw, addr, size, value, tag⟩ : O12), (⟨10, proc, page, count, rights, key, tagged, draw, addr, size, value, tag⟩ : O12)] 2 rfl HL1.out HL2.out _ _ (by rfl) (box_opsN _ _ _ (by rfl) [(⟨11, proc, page, count, rights, key, tagged, draw, addr, size, value, tag⟩ : O12), (⟨10, proc, page, count, rights, key, tagged, draw, addr, size, value, tag⟩ : O12)] _ (by (repeat ((fail_if_success (exact Below.refl _ _)); (first | refine bl_drew ?_ | refine bl_alloc ?_ _ | (refine bl_row ?_ (by first | assumption | omega) _) | refine Below.trans ?_ (by assumption) | refine bl_trans ?_ (by assumption)))); exact Below.refl _ _)) ?_; intro v3 w3 hown3 hb3 hk3; have hbs3 : W0.heap.size ≤ w3.heap.size := (by have := hb3.size; first | omega | (simp at this; omega)))
          | (refine step_append_keepsN shO (by rfl) _ _ 22 24 i0 _ 96 (by rfl) Try.underlying22 hi0 hz0 hz1 hz2 rfl W0.heap.size v2 l (by rfl) w2 ho2 (by (repeat ((fail_if_success (exact Below.refl _ _)); (first | refine bl_drew ?_ | refine bl_alloc ?_ _ | (refine bl_row ?_ (by first | assumption | omega) _) | refine Below.trans ?_ (by assumption) | refine bl_trans ?_ (by assumption)))); exact Below.refl _ _) hbs2 [(⟨11, proc, page, count, rights, key, tagged, draw, addr, size, value, tag⟩ : O12), (⟨10, proc, page, count, rights, key, tagged, draw, addr, size, value, tag⟩ : O12)] 2 rfl HL1.out HL2.out _ _ (by rfl) (box_ops1N W0 _ _ (by first | rfl | omega) (.cells #[.bool false, .slice none 0 0, .bool false, .int .i64 0, .bool false, .int .i64 0, .bool false, .int .i64 0, .bool false, .int .i64 0, .slice none 0 0, .bool false, .slice none 0 0, .bool false, .int .i64 0, .bool false, .int .i64 0, .bool false, .int .i64 0, .bool false, .int .i64 0, .slice none 0 0, .bool false, .slice none 0 0, .bool false, .int .i64 0, .bool false, .int .i64 0, .bool false, .int .i64 0, .bool false, .int .i64 0, .slice none 0 0, .bool false, .slice none 0 0, .bool false, .int .i64 0, .bool false, .int .i64 0, .bool false, .int .i64 0, .bool false, .int .i64 0, .slice none 0 0] 34) [(⟨11, proc, page, count, rights, key, tagged, draw, addr, size, value, tag⟩ : O12), (⟨10, proc, page, count, rights, key, tagged, draw, addr, size, value, tag⟩ : O12)] _ (by (repeat ((fail_if_success (exact Below.refl _ _)); (first | refine bl_drew ?_ | refine bl_alloc ?_ _ | (refine bl_row ?_ (by first | assumption | omega) _) | refine Below.trans ?_ (by assumption) | refine bl_trans ?_ (by assumption)))); exact Below.refl _ _)) ?_; intro v3 w3 hown3 hb3 hk3; have hbs3 : W0.heap.size ≤ w3.heap.size := (by have := hb3.size; first | omega | (simp at this; omega)))
          | (refine step_append_keepsN shO (by rfl) _ _ 22 24 i0 _ 96 (by rfl) Try.underlying22 hi0 hz0 hz1 hz2 rfl W0.heap.size v2 l (by rfl) w2 ho2 (by (repeat ((fail_if_success (exact Below.refl _ _)); (first | refine bl_drew ?_ | refine bl_alloc ?_ _ | (refine bl_row ?_ (by first | assumption | omega) _) | refine Below.trans ?_ (by assumption) | refine bl_trans ?_ (by assumption)))); exact Below.refl _ _) hbs2 [(⟨11, proc, page, count, rights, key, tagged, draw, addr, size, value, tag⟩ : O12), (⟨10, proc, page, count, rights, key, tagged, draw, addr, size, value, tag⟩ : O12)] 2 rfl HL1.out HL2.out _ _ (by rfl) (box_ops1N w2 _ _ (by first | rfl | omega) (.cells #[.bool false, .slice none 0 0, .bool false, .int .i64 0, .bool false, .int .i64 0, .bool false, .int .i64 0, .bool false, .int .i64 0, .slice none 0 0, .bool false, .slice none 0 0, .bool false, .int .i64 0, .bool false, .int .i64 0, .bool false, .int .i64 0, .bool false, .int .i64 0, .slice none 0 0, .bool false, .slice none 0 0, .bool false, .int .i64 0, .bool false, .int .i64 0, .bool false, .int .i64 0, .bool false, .int .i64 0, .slice none 0 0, .bool false, .slice none 0 0, .bool false, .int .i64 0, .bool false, .int .i64 0, .bool false, .int .i64 0, .bool false, .int .i64 0, .slice none 0 0] 34) [(⟨11, proc, page, count, rights, key, tagged, draw, addr, size, value, tag⟩ : O12), (⟨10, proc, page, count, rights, key, tagged, draw, addr, size, value, tag⟩ : O12)] _ (by (repeat ((fail_if_success (exact Below.refl _ _)); (first | refine bl_drew ?_ | refine bl_alloc ?_ _ | (refine bl_row ?_ (by first | assumption | omega) _) | refine Below.trans ?_ (by assumption) | refine bl_trans ?_ (by assumption)))); exact Below.refl _ _)) ?_; intro v3 w3 hown3 hb3 hk3; have hbs3 : W0.heap.size ≤ w3.heap.size := (by have := hb3.size; first | omega | (simp at this; omega)))
          | (refine step_append_keepsN shO (by rfl) _ _ 22 24 i0 _ 96 (by rfl) Try.underlying22 hi0 hz0 hz1 hz2 rfl W0.heap.size v2 l (by rfl) w2 ho2 (by (repeat ((fail_if_success (exact Below.refl _ _)); (first | refine bl_drew ?_ | refine bl_alloc ?_ _ | (refine bl_row ?_ (by first | assumption | omega) _) | refine Below.trans ?_ (by assumption) | refine bl_trans ?_ (by assumption)))); exact Below.refl _ _) hbs2 [(⟨11, proc, page, count, rights, key, tagged, draw, addr, size, value, tag⟩ : O12), (⟨10, proc, page, count, rights, key, tagged, draw, addr, size, value, tag⟩ : O12)] 2 rfl HL1.out HL2.out _ _ (by rfl) (box_opsN W0 _ _ (by first | rfl | omega) [(⟨11, proc, page, count, rights, key, tagged, draw, addr, size, value, tag⟩ : O12), (⟨10, proc, page, count, rights, key, tagged, draw, addr, size, value, tag⟩ : O12)] _ (by (repeat ((fail_if_success (exact Below.refl _ _)); (first | refine bl_drew ?_ | refine bl_alloc ?_ _ | (refine bl_row ?_ (by first | assumption | omega) _) | refine Below.trans ?_ (by assumption) | refine bl_trans ?_ (by assumption)))); exact Below.refl _ _)) ?_; intro v3 w3 hown3 hb3 hk3; have hbs3 : W0.heap.size ≤ w3.heap.size := (by have := hb3.size; first | omega | (simp at this; omega)))
          | (refine step_append_keepsN shO (by rfl) _ _ 22 24 i0 _ 96 (by rfl) Try.underlying22 hi0 hz0 hz1 hz2 rfl W0.heap.size v2 l (by rfl) w2 ho2 (by (repeat ((fail_if_success (exact Below.refl _ _)); (first | refine bl_drew ?_ | refine bl_alloc ?_ _ | (refine bl_row ?_ (by first | assumption | omega) _) | refine Below.trans ?_ (by assumption) | refine bl_trans ?_ (by assumption)))); exact Below.refl _ _) hbs2 [(⟨11, proc, page, count, rights, key, tagged, draw, addr, size, value, tag⟩ : O12), (⟨10, proc, page, count, rights, key, tagged, draw, addr, size, value, tag⟩ : O12)] 2 rfl HL1.out HL2.out _ _ (by rfl) (box_opsN w2 _ _ (by first | rfl | omega) [(⟨11, proc, page, count, rights, key, tagged, draw, addr, size, value, tag⟩ : O12), (⟨10, proc, page, count, rights, key, tagged, draw, addr, size, value, tag⟩ : O12)] _ (by (repeat ((fail_if_success (exact Below.refl _ _)); (first | refine bl_drew ?_ | refine bl_alloc ?_ _ | (refine bl_row ?_ (by first | assumption | omega) _) | refine Below.trans ?_ (by assumption) | refine bl_trans ?_ (by assumption)))); exact Below.refl _ _)) ?_; intro v3 w3 hown3 hb3 hk3; have hbs3 : W0.heap.size ≤ w3.heap.size := (by have := hb3.size; first | omega | (simp at this; omega))))
      | (go_at_call 9; refine (HRU2.out _ _ _ (by first | exact hown3 | exact hown3.below (by (repeat ((fail_if_success (exact Below.refl _ _)); (first | refine bl_drew ?_ | refine bl_alloc ?_ _ | (refine bl_row ?_ (by first | assumption | omega) _) | refine Below.trans ?_ (by assumption) | refine bl_trans ?_ (by assumption)))); exact Below.refl _ _))).mono ?_; rintro e w4 ⟨a4, c4, Y, b4, rfl, ho4, hw4, hs4⟩; have HY := show_facts hs4; have hbs4 : W0.heap.size ≤ w4.heap.size := (by have := hw4.size; first | omega | (simp at this; omega)))
      | (first
          | (refine upon_cells (blk_of w4 _ _ (by first | rfl | omega) (.cells #[.bool false, .slice none 0 0, .bool false, .int .i64 0, .bool false, .int .i64 0, .bool false, .int .i64 0, .bool false, .int .i64 0, .slice none 0 0, .bool false, .slice none 0 0, .bool false, .int .i64 0, .bool false, .int .i64 0, .bool false, .int .i64 0, .bool false, .int .i64 0, .slice none 0 0, .bool false, .slice none 0 0, .bool false, .int .i64 0, .bool false, .int .i64 0, .bool false, .int .i64 0, .bool false, .int .i64 0, .slice none 0 0, .bool false, .slice none 0 0, .bool false, .int .i64 0, .bool false, .int .i64 0, .bool false, .int .i64 0, .bool false, .int .i64 0, .slice none 0 0] 34) (by (repeat ((fail_if_success (exact Below.refl _ _)); (first | refine bl_drew ?_ | refine bl_alloc ?_ _ | (refine bl_row ?_ (by first | assumption | omega) _) | refine Below.trans ?_ (by assumption) | refine bl_trans ?_ (by assumption)))); exact Below.refl _ _)) (by rw [HY.2.1]; rfl) HY.2.2 ?_; go_upon)
          | (refine upon_cells (blk_of w3 _ _ (by first | rfl | omega) (.cells #[.bool false, .slice none 0 0, .bool false, .int .i64 0, .bool false, .int .i64 0, .bool false, .int .i64 0, .bool false, .int .i64 0, .slice none 0 0, .bool false, .slice none 0 0, .bool false, .int .i64 0, .bool false, .int .i64 0, .bool false, .int .i64 0, .bool false, .int .i64 0, .slice none 0 0, .bool false, .slice none 0 0, .bool false, .int .i64 0, .bool false, .int .i64 0, .bool false, .int .i64 0, .bool false, .int .i64 0, .slice none 0 0, .bool false, .slice none 0 0, .bool false, .int .i64 0, .bool false, .int .i64 0, .bool false, .int .i64 0, .bool false, .int .i64 0, .slice none 0 0] 34) (by (repeat ((fail_if_success (exact Below.refl _ _)); (first | refine bl_drew ?_ | refine bl_alloc ?_ _ | (refine bl_row ?_ (by first | assumption | omega) _) | refine Below.trans ?_ (by assumption) | refine bl_trans ?_ (by assumption)))); exact Below.refl _ _)) (by rw [HY.2.1]; rfl) HY.2.2 ?_; go_upon)
          | (refine upon_cells (blk_kept hk3 (by (repeat ((fail_if_success (exact Below.refl _ _)); (first | refine bl_drew ?_ | refine bl_alloc ?_ _ | (refine bl_row ?_ (by first | assumption | omega) _) | refine Below.trans ?_ (by assumption) | refine bl_trans ?_ (by assumption)))); exact Below.refl _ _) (blk_of W0 _ _ (by first | rfl | omega) (.cells #[.bool false, .slice none 0 0, .bool false, .int .i64 0, .bool false, .int .i64 0, .bool false, .int .i64 0, .bool false, .int .i64 0, .slice none 0 0, .bool false, .slice none 0 0, .bool false, .int .i64 0, .bool false, .int .i64 0, .bool false, .int .i64 0, .bool false, .int .i64 0, .slice none 0 0, .bool false, .slice none 0 0, .bool false, .int .i64 0, .bool false, .int .i64 0, .bool false, .int .i64 0, .bool false, .int .i64 0, .slice none 0 0, .bool false, .slice none 0 0, .bool false, .int .i64 0, .bool false, .int .i64 0, .bool false, .int .i64 0, .bool false, .int .i64 0, .slice none 0 0] 34) (by (repeat ((fail_if_success (exact Below.refl _ _)); (first | refine bl_drew ?_ | refine bl_alloc ?_ _ | (refine bl_row ?_ (by first | assumption | omega) _) | refine Below.trans ?_ (by assumption) | refine bl_trans ?_ (by assumption)))); exact Below.refl _ _)) (by decide)) (by rw [HY.2.1]; rfl) HY.2.2 ?_; go_upon)
          | (refine upon_cells (blk_kept hk3 (by (repeat ((fail_if_success (exact Below.refl _ _)); (first | refine bl_drew ?_ | refine bl_alloc ?_ _ | (refine bl_row ?_ (by first | assumption | omega) _) | refine Below.trans ?_ (by assumption) | refine bl_trans ?_ (by assumption)))); exact Below.refl _ _) (blk_of1 W0 _ _ (by first | rfl | omega) (.cells #[.int .i64 11, .int .i64 proc, .int .i64 page, .int .i64 count, .int .i64 rights, .int .i64 key, .bool tagged, .int .i64 draw, .int .i64 addr, .int .i64 size, .int .i64 value, .int .i64 tag, .int .i64 10, .int .i64 proc, .int .i64 page, .int .i64 count, .int .i64 rights, .int .i64 key, .bool tagged, .int .i64 draw, .int .i64 addr, .int .i64 size, .int .i64 value, .int .i64 tag] 24) (.cells #[.bool false, .slice none 0 0, .bool false, .int .i64 0, .bool false, .int .i64 0, .bool false, .int .i64 0, .bool false, .int .i64 0, .slice none 0 0, .bool false, .slice none 0 0, .bool false, .int .i64 0, .bool false, .int .i64 0, .bool false, .int .i64 0, .bool false, .int .i64 0, .slice none 0 0, .bool false, .slice none 0 0, .bool false, .int .i64 0, .bool false, .int .i64 0, .bool false, .int .i64 0, .bool false, .int .i64 0, .slice none 0 0, .bool false, .slice none 0 0, .bool false, .int .i64 0, .bool false, .int .i64 0, .bool false, .int .i64 0, .bool false, .int .i64 0, .slice none 0 0] 34) (by (repeat ((fail_if_success (exact Below.refl _ _)); (first | refine bl_drew ?_ | refine bl_alloc ?_ _ | (refine bl_row ?_ (by first | assumption | omega) _) | refine Below.trans ?_ (by assumption) | refine bl_trans ?_ (by assumption)))); exact Below.refl _ _)) (by decide)) (by rw [HY.2.1]; rfl) HY.2.2 ?_; go_upon)
          | (refine upon_cells (blk_kept hk3 (by (repeat ((fail_if_success (exact Below.refl _ _)); (first | refine bl_drew ?_ | refine bl_alloc ?_ _ | (refine bl_row ?_ (by first | assumption | omega) _) | refine Below.trans ?_ (by assumption) | refine bl_trans ?_ (by assumption)))); exact Below.refl _ _) (blk_of w2 _ _ (by first | rfl | omega) (.cells #[.bool false, .slice none 0 0, .bool false, .int .i64 0, .bool false, .int .i64 0, .bool false, .int .i64 0, .bool false, .int .i64 0, .slice none 0 0, .bool false, .slice none 0 0, .bool false, .int .i64 0, .bool false, .int .i64 0, .bool false, .int .i64 0, .bool false, .int .i64 0, .slice none 0 0, .bool false, .slice none 0 0, .bool false, .int .i64 0, .bool false, .int .i64 0, .bool false, .int .i64 0, .bool false, .int .i64 0, .slice none 0 0, .bool false, .slice none 0 0, .bool false, .int .i64 0, .bool false, .int .i64 0, .bool false, .int .i64 0, .bool false, .int .i64 0, .slice none 0 0] 34) (by (repeat ((fail_if_success (exact Below.refl _ _)); (first | refine bl_drew ?_ | refine bl_alloc ?_ _ | (refine bl_row ?_ (by first | assumption | omega) _) | refine Below.trans ?_ (by assumption) | refine bl_trans ?_ (by assumption)))); exact Below.refl _ _)) (by decide)) (by rw [HY.2.1]; rfl) HY.2.2 ?_; go_upon)
          | (refine upon_cells (blk_kept hk3 (by (repeat ((fail_if_success (exact Below.refl _ _)); (first | refine bl_drew ?_ | refine bl_alloc ?_ _ | (refine bl_row ?_ (by first | assumption | omega) _) | refine Below.trans ?_ (by assumption) | refine bl_trans ?_ (by assumption)))); exact Below.refl _ _) (blk_of1 w2 _ _ (by first | rfl | omega) (.cells #[.int .i64 11, .int .i64 proc, .int .i64 page, .int .i64 count, .int .i64 rights, .int .i64 key, .bool tagged, .int .i64 draw, .int .i64 addr, .int .i64 size, .int .i64 value, .int .i64 tag, .int .i64 10, .int .i64 proc, .int .i64 page, .int .i64 count, .int .i64 rights, .int .i64 key, .bool tagged, .int .i64 draw, .int .i64 addr, .int .i64 size, .int .i64 value, .int .i64 tag] 24) (.cells #[.bool false, .slice none 0 0, .bool false, .int .i64 0, .bool false, .int .i64 0, .bool false, .int .i64 0, .bool false, .int .i64 0, .slice none 0 0, .bool false, .slice none 0 0, .bool false, .int .i64 0, .bool false, .int .i64 0, .bool false, .int .i64 0, .bool false, .int .i64 0, .slice none 0 0, .bool false, .slice none 0 0, .bool false, .int .i64 0, .bool false, .int .i64 0, .bool false, .int .i64 0, .bool false, .int .i64 0, .slice none 0 0, .bool false, .slice none 0 0, .bool false, .int .i64 0, .bool false, .int .i64 0, .bool false, .int .i64 0, .bool false, .int .i64 0, .slice none 0 0] 34) (by (repeat ((fail_if_success (exact Below.refl _ _)); (first | refine bl_drew ?_ | refine bl_alloc ?_ _ | (refine bl_row ?_ (by first | assumption | omega) _) | refine Below.trans ?_ (by assumption) | refine bl_trans ?_ (by assumption)))); exact Below.refl _ _)) (by decide)) (by rw [HY.2.1]; rfl) HY.2.2 ?_; go_upon)))
    all_goals
      rename_i hH
      refine ⟨rfl, _, _, _, _, b4, _, _, _, rfl, hH, ?_⟩
      first
        | exact fin_row (w4 := w4) (by (repeat ((fail_if_success (exact Below.refl _ _)); (first | refine bl_drew ?_ | refine bl_alloc ?_ _ | (refine bl_row ?_ (by first | assumption | omega) _) | refine Below.trans ?_ (by assumption) | refine bl_trans ?_ (by assumption)))); exact Below.refl _ _) (blk_of w4 _ _ (by first | rfl | omega) (.cells #[.bool false, .slice none 0 0, .bool false, .int .i64 0, .bool false, .int .i64 0, .bool false, .int .i64 0, .bool false, .int .i64 0, .slice none 0 0, .bool false, .slice none 0 0, .bool false, .int .i64 0, .bool false, .int .i64 0, .bool false, .int .i64 0, .bool false, .int .i64 0, .slice none 0 0, .bool false, .slice none 0 0, .bool false, .int .i64 0, .bool false, .int .i64 0, .bool false, .int .i64 0, .bool false, .int .i64 0, .slice none 0 0, .bool false, .slice none 0 0, .bool false, .int .i64 0, .bool false, .int .i64 0, .bool false, .int .i64 0, .bool false, .int .i64 0, .slice none 0 0] 34) (by (repeat ((fail_if_success (exact Below.refl _ _)); (first | refine bl_drew ?_ | refine bl_alloc ?_ _ | (refine bl_row ?_ (by first | assumption | omega) _) | refine Below.trans ?_ (by assumption) | refine bl_trans ?_ (by assumption)))); exact Below.refl _ _)) ho4 hs4
        | exact fin_row (w4 := w4) (by (repeat ((fail_if_success (exact Below.refl _ _)); (first | refine bl_drew ?_ | refine bl_alloc ?_ _ | (refine bl_row ?_ (by first | assumption | omega) _) | refine Below.trans ?_ (by assumption) | refine bl_trans ?_ (by assumption)))); exact Below.refl _ _) (blk_of w3 _ _ (by first | rfl | omega) (.cells #[.bool false, .slice none 0 0, .bool false, .int .i64 0, .bool false, .int .i64 0, .bool false, .int .i64 0, .bool false, .int .i64 0, .slice none 0 0, .bool false, .slice none 0 0, .bool false, .int .i64 0, .bool false, .int .i64 0, .bool false, .int .i64 0, .bool false, .int .i64 0, .slice none 0 0, .bool false, .slice none 0 0, .bool false, .int .i64 0, .bool false, .int .i64 0, .bool false, .int .i64 0, .bool false, .int .i64 0, .slice none 0 0, .bool false, .slice none 0 0, .bool false, .int .i64 0, .bool false, .int .i64 0, .bool false, .int .i64 0, .bool false, .int .i64 0, .slice none 0 0] 34) (by (repeat ((fail_if_success (exact Below.refl _ _)); (first | refine bl_drew ?_ | refine bl_alloc ?_ _ | (refine bl_row ?_ (by first | assumption | omega) _) | refine Below.trans ?_ (by assumption) | refine bl_trans ?_ (by assumption)))); exact Below.refl _ _)) ho4 hs4
        | exact fin_row (w4 := w4) (by (repeat ((fail_if_success (exact Below.refl _ _)); (first | refine bl_drew ?_ | refine bl_alloc ?_ _ | (refine bl_row ?_ (by first | assumption | omega) _) | refine Below.trans ?_ (by assumption) | refine bl_trans ?_ (by assumption)))); exact Below.refl _ _) (blk_kept hk3 (by (repeat ((fail_if_success (exact Below.refl _ _)); (first | refine bl_drew ?_ | refine bl_alloc ?_ _ | (refine bl_row ?_ (by first | assumption | omega) _) | refine Below.trans ?_ (by assumption) | refine bl_trans ?_ (by assumption)))); exact Below.refl _ _) (blk_of W0 _ _ (by first | rfl | omega) (.cells #[.bool false, .slice none 0 0, .bool false, .int .i64 0, .bool false, .int .i64 0, .bool false, .int .i64 0, .bool false, .int .i64 0, .slice none 0 0, .bool false, .slice none 0 0, .bool false, .int .i64 0, .bool false, .int .i64 0, .bool false, .int .i64 0, .bool false, .int .i64 0, .slice none 0 0, .bool false, .slice none 0 0, .bool false, .int .i64 0, .bool false, .int .i64 0, .bool false, .int .i64 0, .bool false, .int .i64 0, .slice none 0 0, .bool false, .slice none 0 0, .bool false, .int .i64 0, .bool false, .int .i64 0, .bool false, .int .i64 0, .bool false, .int .i64 0, .slice none 0 0] 34) (by (repeat ((fail_if_success (exact Below.refl _ _)); (first | refine bl_drew ?_ | refine bl_alloc ?_ _ | (refine bl_row ?_ (by first | assumption | omega) _) | refine Below.trans ?_ (by assumption) | refine bl_trans ?_ (by assumption)))); exact Below.refl _ _)) (by decide)) ho4 hs4
        | exact fin_row (w4 := w4) (by (repeat ((fail_if_success (exact Below.refl _ _)); (first | refine bl_drew ?_ | refine bl_alloc ?_ _ | (refine bl_row ?_ (by first | assumption | omega) _) | refine Below.trans ?_ (by assumption) | refine bl_trans ?_ (by assumption)))); exact Below.refl _ _) (blk_kept hk3 (by (repeat ((fail_if_success (exact Below.refl _ _)); (first | refine bl_drew ?_ | refine bl_alloc ?_ _ | (refine bl_row ?_ (by first | assumption | omega) _) | refine Below.trans ?_ (by assumption) | refine bl_trans ?_ (by assumption)))); exact Below.refl _ _) (blk_of1 W0 _ _ (by first | rfl | omega) (.cells #[.int .i64 11, .int .i64 proc, .int .i64 page, .int .i64 count, .int .i64 rights, .int .i64 key, .bool tagged, .int .i64 draw, .int .i64 addr, .int .i64 size, .int .i64 value, .int .i64 tag, .int .i64 10, .int .i64 proc, .int .i64 page, .int .i64 count, .int .i64 rights, .int .i64 key, .bool tagged, .int .i64 draw, .int .i64 addr, .int .i64 size, .int .i64 value, .int .i64 tag] 24) (.cells #[.bool false, .slice none 0 0, .bool false, .int .i64 0, .bool false, .int .i64 0, .bool false, .int .i64 0, .bool false, .int .i64 0, .slice none 0 0, .bool false, .slice none 0 0, .bool false, .int .i64 0, .bool false, .int .i64 0, .bool false, .int .i64 0, .bool false, .int .i64 0, .slice none 0 0, .bool false, .slice none 0 0, .bool false, .int .i64 0, .bool false, .int .i64 0, .bool false, .int .i64 0, .bool false, .int .i64 0, .slice none 0 0, .bool false, .slice none 0 0, .bool false, .int .i64 0, .bool false, .int .i64 0, .bool false, .int .i64 0, .bool false, .int .i64 0, .slice none 0 0] 34) (by (repeat ((fail_if_success (exact Below.refl _ _)); (first | refine bl_drew ?_ | refine bl_alloc ?_ _ | (refine bl_row ?_ (by first | assumption | omega) _) | refine Below.trans ?_ (by assumption) | refine bl_trans ?_ (by assumption)))); exact Below.refl _ _)) (by decide)) ho4 hs4
        | exact fin_row (w4 := w4) (by (repeat ((fail_if_success (exact Below.refl _ _)); (first | refine bl_drew ?_ | refine bl_alloc ?_ _ | (refine bl_row ?_ (by first | assumption | omega) _) | refine Below.trans ?_ (by assumption) | refine bl_trans ?_ (by assumption)))); exact Below.refl _ _) (blk_kept hk3 (by (repeat ((fail_if_success (exact Below.refl _ _)); (first | refine bl_drew ?_ | refine bl_alloc ?_ _ | (refine bl_row ?_ (by first | assumption | omega) _) | refine Below.trans ?_ (by assumption) | refine bl_trans ?_ (by assumption)))); exact Below.refl _ _) (blk_of w2 _ _ (by first | rfl | omega) (.cells #[.bool false, .slice none 0 0, .bool false, .int .i64 0, .bool false, .int .i64 0, .bool false, .int .i64 0, .bool false, .int .i64 0, .slice none 0 0, .bool false, .slice none 0 0, .bool false, .int .i64 0, .bool false, .int .i64 0, .bool false, .int .i64 0, .bool false, .int .i64 0, .slice none 0 0, .bool false, .slice none 0 0, .bool false, .int .i64 0, .bool false, .int .i64 0, .bool false, .int .i64 0, .bool false, .int .i64 0, .slice none 0 0, .bool false, .slice none 0 0, .bool false, .int .i64 0, .bool false, .int .i64 0, .bool false, .int .i64 0, .bool false, .int .i64 0, .slice none 0 0] 34) (by (repeat ((fail_if_success (exact Below.refl _ _)); (first | refine bl_drew ?_ | refine bl_alloc ?_ _ | (refine bl_row ?_ (by first | assumption | omega) _) | refine Below.trans ?_ (by assumption) | refine bl_trans ?_ (by assumption)))); exact Below.refl _ _)) (by decide)) ho4 hs4
        | exact fin_row (w4 := w4) (by (repeat ((fail_if_success (exact Below.refl _ _)); (first | refine bl_drew ?_ | refine bl_alloc ?_ _ | (refine bl_row ?_ (by first | assumption | omega) _) | refine Below.trans ?_ (by assumption) | refine bl_trans ?_ (by assumption)))); exact Below.refl _ _) (blk_kept hk3 (by (repeat ((fail_if_success (exact Below.refl _ _)); (first | refine bl_drew ?_ | refine bl_alloc ?_ _ | (refine bl_row ?_ (by first | assumption | omega) _) | refine Below.trans ?_ (by assumption) | refine bl_trans ?_ (by assumption)))); exact Below.refl _ _) (blk_of1 w2 _ _ (by first | rfl | omega) (.cells #[.int .i64 11, .int .i64 proc, .int .i64 page, .int .i64 count, .int .i64 rights, .int .i64 key, .bool tagged, .int .i64 draw, .int .i64 addr, .int .i64 size, .int .i64 value, .int .i64 tag, .int .i64 10, .int .i64 proc, .int .i64 page, .int .i64 count, .int .i64 rights, .int .i64 key, .bool tagged, .int .i64 draw, .int .i64 addr, .int .i64 size, .int .i64 value, .int .i64 tag] 24) (.cells #[.bool false, .slice none 0 0, .bool false, .int .i64 0, .bool false, .int .i64 0, .bool false, .int .i64 0, .bool false, .int .i64 0, .slice none 0 0, .bool false, .slice none 0 0, .bool false, .int .i64 0, .bool false, .int .i64 0, .bool false, .int .i64 0, .bool false, .int .i64 0, .slice none 0 0, .bool false, .slice none 0 0, .bool false, .int .i64 0, .bool false, .int .i64 0, .bool false, .int .i64 0, .bool false, .int .i64 0, .slice none 0 0, .bool false, .slice none 0 0, .bool false, .int .i64 0, .bool false, .int .i64 0, .bool false, .int .i64 0, .bool false, .int .i64 0, .slice none 0 0] 34) (by (repeat ((fail_if_success (exact Below.refl _ _)); (first | refine bl_drew ?_ | refine bl_alloc ?_ _ | (refine bl_row ?_ (by first | assumption | omega) _) | refine Below.trans ?_ (by assumption) | refine bl_trans ?_ (by assumption)))); exact Below.refl _ _)) (by decide)) ho4 hs4
  · rintro e a' w' ⟨rfl, b8, s20, a4, c4, base4, Y, v2, v3, rfl, ⟨⟨⟨x0, x1, x2, x3, x4, x5, x6, x7, x8, x9, x10, x11⟩, ⟨y0, y1, y2, y3, y4, y5, y6, y7, y8, y9, y10, y11⟩⟩, hbW⟩, hgY, hoY, hsY⟩
    dsimp only
    have hgX : w'.heap[bX]? = some (.cells X 34 (0, 0)) := (hbW.block _ HGA.out.2).trans HGA.out.1
    have hbw : Below w.heap.size w w' := hb0.trans (hbW.mono hb0.size)
    have hrec := hoY.recs (B := 2932031007400) (by rw [HN.out.2]; have := HN.out.1; omega)
    obtain ⟨aa, ac, hv, -, -, hcc⟩ := hrec
    injection hv with hv1 hv2 hv3
    subst hv1
    clear hv2 hv3
    have hlen2 := HN.out.2
    obtain ⟨b, off, rfl, hc⟩ := hcc (by omega)
    have z0' := recs_cell shA hc zAn n 0 (by omega) (by decide) (u := .int .i64 d1) (by rw [HGET.out.1]; rfl)
    have z1' := recs_cell shA hc zAn (n + 1) 0 (by omega) (by decide) (u := .int .i64 e1) (by rw [HGET.out.2]; rfl)
    have z2' := recs_cell shA hc zAn (n + 1) 1 (by omega) (by decide) (u := .int .i64 e2) (by rw [HGET.out.2]; rfl)
    have z3' := recs_cell shA hc zAn (n + 1) 2 (by omega) (by decide) (u := .int .i64 e3) (by rw [HGET.out.2]; rfl)
    rw [Nat.add_zero] at z0' z1'
    have hn64 := HN.out.1
    clear hc hcc hoY hlen2 HGET HRU2 HCl HS0 HN
    by_cases hd1 : d1 = 0
    · subst hd1
      obtain ⟨⟨hp0, hp3⟩, hadr, hS1, hS2, hee⟩ := HBK.out rfl
      clear HBK
      rcases hee with ⟨he, hval⟩ | ⟨he, hfl⟩
      · subst he
        obtain ⟨p, rfl⟩ : ∃ p : Nat, proc = p := ⟨proc.toNat, by omega⟩
        have hp4 : p < 4 := by omega
        rw [Int.toNat_natCast] at hS1
        obtain ⟨oK, hoK⟩ : ∃ o1, o1 = asK (⟨kind, (p : Int), page, count, rights, key, tagged, draw, addr, size, value, tag⟩ : O12) 11 := ⟨_, rfl⟩
        rw [← hoK] at hS1
        have hq : S2 p = storB (S p) oK := by rw [hS2, hS1, upd_at]
        obtain ⟨a5, n5, c5, a6, n6, c6, hs1, hc1⟩ := (HX0.out.below hbW).at hp4
        obtain ⟨a7, n7, c7, a8, n8, c8, hs2, hc2⟩ := hsY.at hp4
        rw [hq] at hs2 hc2
        have hpi := HI.out.1 p
        have HPI : Hid (PInv (S p)) := hpi
        have xC := hc1 bX w' hgX
        have yC := hc2 b8 w' hgY
        have p0d : decide ((p : Int) < 0) = false := by simp
        have p4d : decide ((p : Int) < 4) = true := by simp; omega
        have hgl1 : bX < w'.heap.size := (Array.getElem?_eq_some_iff.1 hgX).1
        have hgl2 : b8 < w'.heap.size := (Array.getElem?_eq_some_iff.1 hgY).1
        obtain ⟨pp, hpp⟩ : ∃ pp, pp = S p := ⟨_, rfl⟩
        rw [← hpp] at hs1 hs2 xC yC HPI
        clear hpp hq hS1 hS2 HX0 hsY HI HI2 hc1 hc2 hpi
        obtain ⟨lv, L, ⟨t0, f0, t1, f1, t2, f2, t3, f3⟩, B, T⟩ := pp
        have hxa : ∀ j u, ([.bool lv, .slice a5 n5 c5, .bool t0, .int .i64 f0, .bool t1, .int .i64 f1, .bool t2, .int .i64 f2, .bool t3, .int .i64 f3, .slice a6 n6 c6] : List Value)[j]? = some u → w'.cell? ⟨bX, p * 11 + j, none⟩ = some u := xC
        have hya : ∀ j u, ([.bool lv, .slice a7 n7 c7, .bool t0, .int .i64 f0, .bool t1, .int .i64 f1, .bool t2, .int .i64 f2, .bool t3, .int .i64 f3, .slice a8 n8 c8] : List Value)[j]? = some u → w'.cell? ⟨b8, p * 11 + j, none⟩ = some u := yC
        clear xC yC
        go_wp2_with fail
        have HXY : Hid (∀ w2, Below w'.heap.size w' w2 → w2.cell? ⟨w.heap.size, 1, none⟩ = some (.int .i64 (p : Int)) ∧ w2.cell? ⟨bX, p * 11, none⟩ = some (.bool lv) ∧ w2.cell? ⟨bX, p * 11 + 1, none⟩ = some (.slice a5 n5 c5) ∧ w2.cell? ⟨bX, p * 11 + 2, none⟩ = some (.bool t0) ∧ w2.cell? ⟨bX, p * 11 + 3, none⟩ = some (.int .i64 f0) ∧ w2.cell? ⟨bX, p * 11 + 4, none⟩ = some (.bool t1) ∧ w2.cell? ⟨bX, p * 11 + 5, none⟩ = some (.int .i64 f1) ∧ w2.cell? ⟨bX, p * 11 + 6, none⟩ = some (.bool t2) ∧ w2.cell? ⟨bX, p * 11 + 7, none⟩ = some (.int .i64 f2) ∧ w2.cell? ⟨bX, p * 11 + 8, none⟩ = some (.bool t3) ∧ w2.cell? ⟨bX, p * 11 + 9, none⟩ = some (.int .i64 f3) ∧ w2.cell? ⟨bX, p * 11 + 10, none⟩ = some (.slice a6 n6 c6) ∧ w2.cell? ⟨b8, p * 11, none⟩ = some (.bool lv) ∧ w2.cell? ⟨b8, p * 11 + 1, none⟩ = some (.slice a7 n7 c7) ∧ w2.cell? ⟨b8, p * 11 + 2, none⟩ = some (.bool t0) ∧ w2.cell? ⟨b8, p * 11 + 3, none⟩ = some (.int .i64 f0) ∧ w2.cell? ⟨b8, p * 11 + 4, none⟩ = some (.bool t1) ∧ w2.cell? ⟨b8, p * 11 + 5, none⟩ = some (.int .i64 f1) ∧ w2.cell? ⟨b8, p * 11 + 6, none⟩ = some (.bool t2) ∧ w2.cell? ⟨b8, p * 11 + 7, none⟩ = some (.int .i64 f2) ∧ w2.cell? ⟨b8, p * 11 + 8, none⟩ = some (.bool t3) ∧ w2.cell? ⟨b8, p * 11 + 9, none⟩ = some (.int .i64 f3) ∧ w2.cell? ⟨b8, p * 11 + 10, none⟩ = some (.slice a8 n8 c8) ∧ Below w'.heap.size w' w2) := fun w2 hb => by
          have go : ∀ {A : Addr} {v : Value}, w'.cell? A = some v → w2.cell? A = some v := fun hc => (hb.cell (cell_lt hc)).trans hc
          exact ⟨go x1, go (hxa 0 _ rfl), go (hxa 1 _ rfl), go (hxa 2 _ rfl), go (hxa 3 _ rfl), go (hxa 4 _ rfl), go (hxa 5 _ rfl), go (hxa 6 _ rfl), go (hxa 7 _ rfl), go (hxa 8 _ rfl), go (hxa 9 _ rfl), go (hxa 10 _ rfl), go (hya 0 _ rfl), go (hya 1 _ rfl), go (hya 2 _ rfl), go (hya 3 _ rfl), go (hya 4 _ rfl), go (hya 5 _ rfl), go (hya 6 _ rfl), go (hya 7 _ rfl), go (hya 8 _ rfl), go (hya 9 _ rfl), go (hya 10 _ rfl), hb⟩
        refine Code.wp_mono (Q := fun e a' w2 => e = .normal ∧ ∃ (b11 b12 : Nat), a' = ⟨#[.slice a n cap, opV (⟨kind, (p : Int), page, count, rights, key, tagged, draw, addr, size, value, tag⟩ : O12), undef, .pointer (some ⟨w.heap.size, 0, none⟩), .bool false, .pointer (some ⟨b5, 0, none⟩), .slice a2 n c2, .pointer (some ⟨bX, 0, none⟩), .slice (some ⟨b, off, none⟩) (n + 2) c4, .pointer (some ⟨b8, 0, none⟩), .int .i64 (n : Int), .pointer (some ⟨b11, 0, none⟩), .pointer (some ⟨b12, 0, none⟩), undef, undef, undef, .bool true, .bool false, .pointer (some ⟨w.heap.size, 0, none⟩), .agg #[.int .i64 11, .int .i64 (p : Int), .int .i64 page, .int .i64 count, .int .i64 rights, .int .i64 key, .bool tagged, .int .i64 draw, .int .i64 addr, .int .i64 size, .int .i64 value, .int .i64 tag], .pointer (some ⟨b5, 0, none⟩), .tuple #[.slice a2 n c2, .agg X], .slice a n cap, .tuple #[.slice a2 n c2, .agg X], .slice a2 n c2, .agg X, .tuple #[.slice (some ⟨b, off, none⟩) (n + 2) c4, .agg Y], .slice a n cap, v2, .agg #[.int .i64 11, .int .i64 (p : Int), .int .i64 page, .int .i64 count, .int .i64 rights, .int .i64 key, .bool tagged, .int .i64 draw, .int .i64 addr, .int .i64 size, .int .i64 value, .int .i64 tag], .agg #[.int .i64 10, .int .i64 (p : Int), .int .i64 page, .int .i64 count, .int .i64 rights, .int .i64 key, .bool tagged, .int .i64 draw, .int .i64 addr, .int .i64 size, .int .i64 value, .int .i64 tag], .slice (some ⟨s20, 0, none⟩) 2 2, v3, .tuple #[.slice (some ⟨b, off, none⟩) (n + 2) c4, .agg Y], .slice (some ⟨b, off, none⟩) (n + 2) c4, .agg Y, .slice a n cap, .int .i64 (n : Int), .slice (some ⟨b, off, none⟩) (n + 2) c4, .int .i64 ((n : Int) + 2), .int .i64 (n : Int), .int .i64 ((n : Int) + 2), .bool false, .bool false, .slice (some ⟨b, off, none⟩) (n + 2) c4, .int .i64 (n : Int), .pointer (some ⟨b, off + n * 4, none⟩), .pointer (some ⟨b, off + n * 4, none⟩), .int .i64 0, .bool false, .bool false, undef, undef, undef, undef, undef, .slice (some ⟨b, off, none⟩) (n + 2) c4, .int .i64 (n : Int), .int .i64 ((n : Int) + 1), .pointer (some ⟨b, off + (n + 1) * 4, none⟩), .pointer (some ⟨b, off + (n + 1) * 4, none⟩), .int .i64 0, .bool false, undef, undef, undef, undef, undef, undef, undef, undef, undef, undef, undef, undef, undef, undef, undef, undef, undef, undef, undef, undef, undef, undef, undef, undef, undef, .pointer (some ⟨w.heap.size, 1, none⟩), .int .i64 (p : Int), .pointer (some ⟨bX, p * 11, none⟩), .agg #[.bool lv, .slice a5 n5 c5, .bool t0, .int .i64 f0, .bool t1, .int .i64 f1, .bool t2, .int .i64 f2, .bool t3, .int .i64 f3, .slice a6 n6 c6], .pointer (some ⟨w.heap.size, 1, none⟩), .int .i64 (p : Int), .pointer (some ⟨b8, p * 11, none⟩), .agg #[.bool lv, .slice a7 n7 c7, .bool t0, .int .i64 f0, .bool t1, .int .i64 f1, .bool t2, .int .i64 f2, .bool t3, .int .i64 f3, .slice a8 n8 c8], undef, undef, undef, undef, undef, undef, undef, undef, undef, undef, undef, undef, undef, undef, undef, undef, undef, undef, undef, undef, undef, undef, undef, undef, undef, undef, undef, undef, undef, undef, undef, undef, undef, undef, undef, undef, undef, undef, undef, undef, undef, undef, undef, undef, undef, undef, undef, undef, undef, undef, undef, undef, undef, undef, undef, undef, undef, undef, undef, undef, undef, undef, undef, undef, undef, undef, undef, undef, undef, undef, undef, undef, undef, undef, undef, undef, undef, undef, undef, undef, undef, undef, undef, undef, undef, undef, undef, undef, undef, undef, undef, undef, undef, undef, undef, undef, undef, undef, undef, undef, undef, undef, undef, undef, undef, undef, undef, undef], []⟩ ∧ Below w'.heap.size w' w2 ∧ OwnRow w2 b11 33 [.bool lv, .slice a5 n5 c5, .bool t0, .int .i64 f0, .bool t1, .int .i64 f1, .bool t2, .int .i64 f2, .bool t3, .int .i64 f3, .slice a6 n6 c6] ∧ OwnRow w2 b12 33 [.bool lv, .slice a7 n7 c7, .bool t0, .int .i64 f0, .bool t1, .int .i64 f1, .bool t2, .int .i64 f2, .bool t3, .int .i64 f3, .slice a8 n8 c8]) ?_ ?_
        rotate_left
        · obtain rfl | rfl | rfl | rfl : p = 0 ∨ p = 1 ∨ p = 2 ∨ p = 3 := by omega
          · have HXY2 : Hid (∀ w2, Below w'.heap.size w' w2 → w2.cell? ⟨w.heap.size, 1, none⟩ = some (.int .i64 0) ∧ w2.cell? ⟨bX, 0, none⟩ = some (.bool lv) ∧ w2.cell? ⟨bX, 1, none⟩ = some (.slice a5 n5 c5) ∧ w2.cell? ⟨bX, 2, none⟩ = some (.bool t0) ∧ w2.cell? ⟨bX, 3, none⟩ = some (.int .i64 f0) ∧ w2.cell? ⟨bX, 4, none⟩ = some (.bool t1) ∧ w2.cell? ⟨bX, 5, none⟩ = some (.int .i64 f1) ∧ w2.cell? ⟨bX, 6, none⟩ = some (.bool t2) ∧ w2.cell? ⟨bX, 7, none⟩ = some (.int .i64 f2) ∧ w2.cell? ⟨bX, 8, none⟩ = some (.bool t3) ∧ w2.cell? ⟨bX, 9, none⟩ = some (.int .i64 f3) ∧ w2.cell? ⟨bX, 10, none⟩ = some (.slice a6 n6 c6) ∧ w2.cell? ⟨b8, 0, none⟩ = some (.bool lv) ∧ w2.cell? ⟨b8, 1, none⟩ = some (.slice a7 n7 c7) ∧ w2.cell? ⟨b8, 2, none⟩ = some (.bool t0) ∧ w2.cell? ⟨b8, 3, none⟩ = some (.int .i64 f0) ∧ w2.cell? ⟨b8, 4, none⟩ = some (.bool t1) ∧ w2.cell? ⟨b8, 5, none⟩ = some (.int .i64 f1) ∧ w2.cell? ⟨b8, 6, none⟩ = some (.bool t2) ∧ w2.cell? ⟨b8, 7, none⟩ = some (.int .i64 f2) ∧ w2.cell? ⟨b8, 8, none⟩ = some (.bool t3) ∧ w2.cell? ⟨b8, 9, none⟩ = some (.int .i64 f3) ∧ w2.cell? ⟨b8, 10, none⟩ = some (.slice a8 n8 c8) ∧ Below w'.heap.size w' w2) := HXY.out
            clear HXY hxa hya
            go_region_held3 (fun w2 => w2.cell? ⟨w.heap.size, 1, none⟩ = some (.int .i64 0) ∧ w2.cell? ⟨bX, 0, none⟩ = some (.bool lv) ∧ w2.cell? ⟨bX, 1, none⟩ = some (.slice a5 n5 c5) ∧ w2.cell? ⟨bX, 2, none⟩ = some (.bool t0) ∧ w2.cell? ⟨bX, 3, none⟩ = some (.int .i64 f0) ∧ w2.cell? ⟨bX, 4, none⟩ = some (.bool t1) ∧ w2.cell? ⟨bX, 5, none⟩ = some (.int .i64 f1) ∧ w2.cell? ⟨bX, 6, none⟩ = some (.bool t2) ∧ w2.cell? ⟨bX, 7, none⟩ = some (.int .i64 f2) ∧ w2.cell? ⟨bX, 8, none⟩ = some (.bool t3) ∧ w2.cell? ⟨bX, 9, none⟩ = some (.int .i64 f3) ∧ w2.cell? ⟨bX, 10, none⟩ = some (.slice a6 n6 c6) ∧ w2.cell? ⟨b8, 0, none⟩ = some (.bool lv) ∧ w2.cell? ⟨b8, 1, none⟩ = some (.slice a7 n7 c7) ∧ w2.cell? ⟨b8, 2, none⟩ = some (.bool t0) ∧ w2.cell? ⟨b8, 3, none⟩ = some (.int .i64 f0) ∧ w2.cell? ⟨b8, 4, none⟩ = some (.bool t1) ∧ w2.cell? ⟨b8, 5, none⟩ = some (.int .i64 f1) ∧ w2.cell? ⟨b8, 6, none⟩ = some (.bool t2) ∧ w2.cell? ⟨b8, 7, none⟩ = some (.int .i64 f2) ∧ w2.cell? ⟨b8, 8, none⟩ = some (.bool t3) ∧ w2.cell? ⟨b8, 9, none⟩ = some (.int .i64 f3) ∧ w2.cell? ⟨b8, 10, none⟩ = some (.slice a8 n8 c8) ∧ Below w'.heap.size w' w2)
              (exact HXY2.out _ (by (repeat ((fail_if_success (exact Below.refl _ _)); (first | refine bl_drew ?_ | refine bl_alloc ?_ _ | (refine bl_row ?_ (by first | assumption | omega) _) | refine Below.trans ?_ (by assumption) | refine bl_trans ?_ (by assumption)))); exact Below.refl _ _))
              (fail)
            all_goals
              first
                | exact ⟨rfl, _, _, rfl, (by (repeat ((fail_if_success (exact Below.refl _ _)); (first | refine bl_drew ?_ | refine bl_alloc ?_ _ | (refine bl_row ?_ (by first | assumption | omega) _) | refine Below.trans ?_ (by assumption) | refine bl_trans ?_ (by assumption)))); exact Below.refl _ _), (two_rows w' _ _ _).1, (two_rows w' _ _ _).2⟩
                | exact ⟨rfl, _, _, rfl, (by (repeat ((fail_if_success (exact Below.refl _ _)); (first | refine bl_drew ?_ | refine bl_alloc ?_ _ | (refine bl_row ?_ (by first | assumption | omega) _) | refine Below.trans ?_ (by assumption) | refine bl_trans ?_ (by assumption)))); exact Below.refl _ _), (two_rows w' _ _ _).2, (two_rows w' _ _ _).1⟩
          · have HXY2 : Hid (∀ w2, Below w'.heap.size w' w2 → w2.cell? ⟨w.heap.size, 1, none⟩ = some (.int .i64 1) ∧ w2.cell? ⟨bX, 11, none⟩ = some (.bool lv) ∧ w2.cell? ⟨bX, 12, none⟩ = some (.slice a5 n5 c5) ∧ w2.cell? ⟨bX, 13, none⟩ = some (.bool t0) ∧ w2.cell? ⟨bX, 14, none⟩ = some (.int .i64 f0) ∧ w2.cell? ⟨bX, 15, none⟩ = some (.bool t1) ∧ w2.cell? ⟨bX, 16, none⟩ = some (.int .i64 f1) ∧ w2.cell? ⟨bX, 17, none⟩ = some (.bool t2) ∧ w2.cell? ⟨bX, 18, none⟩ = some (.int .i64 f2) ∧ w2.cell? ⟨bX, 19, none⟩ = some (.bool t3) ∧ w2.cell? ⟨bX, 20, none⟩ = some (.int .i64 f3) ∧ w2.cell? ⟨bX, 21, none⟩ = some (.slice a6 n6 c6) ∧ w2.cell? ⟨b8, 11, none⟩ = some (.bool lv) ∧ w2.cell? ⟨b8, 12, none⟩ = some (.slice a7 n7 c7) ∧ w2.cell? ⟨b8, 13, none⟩ = some (.bool t0) ∧ w2.cell? ⟨b8, 14, none⟩ = some (.int .i64 f0) ∧ w2.cell? ⟨b8, 15, none⟩ = some (.bool t1) ∧ w2.cell? ⟨b8, 16, none⟩ = some (.int .i64 f1) ∧ w2.cell? ⟨b8, 17, none⟩ = some (.bool t2) ∧ w2.cell? ⟨b8, 18, none⟩ = some (.int .i64 f2) ∧ w2.cell? ⟨b8, 19, none⟩ = some (.bool t3) ∧ w2.cell? ⟨b8, 20, none⟩ = some (.int .i64 f3) ∧ w2.cell? ⟨b8, 21, none⟩ = some (.slice a8 n8 c8) ∧ Below w'.heap.size w' w2) := HXY.out
            clear HXY hxa hya
            go_region_held3 (fun w2 => w2.cell? ⟨w.heap.size, 1, none⟩ = some (.int .i64 1) ∧ w2.cell? ⟨bX, 11, none⟩ = some (.bool lv) ∧ w2.cell? ⟨bX, 12, none⟩ = some (.slice a5 n5 c5) ∧ w2.cell? ⟨bX, 13, none⟩ = some (.bool t0) ∧ w2.cell? ⟨bX, 14, none⟩ = some (.int .i64 f0) ∧ w2.cell? ⟨bX, 15, none⟩ = some (.bool t1) ∧ w2.cell? ⟨bX, 16, none⟩ = some (.int .i64 f1) ∧ w2.cell? ⟨bX, 17, none⟩ = some (.bool t2) ∧ w2.cell? ⟨bX, 18, none⟩ = some (.int .i64 f2) ∧ w2.cell? ⟨bX, 19, none⟩ = some (.bool t3) ∧ w2.cell? ⟨bX, 20, none⟩ = some (.int .i64 f3) ∧ w2.cell? ⟨bX, 21, none⟩ = some (.slice a6 n6 c6) ∧ w2.cell? ⟨b8, 11, none⟩ = some (.bool lv) ∧ w2.cell? ⟨b8, 12, none⟩ = some (.slice a7 n7 c7) ∧ w2.cell? ⟨b8, 13, none⟩ = some (.bool t0) ∧ w2.cell? ⟨b8, 14, none⟩ = some (.int .i64 f0) ∧ w2.cell? ⟨b8, 15, none⟩ = some (.bool t1) ∧ w2.cell? ⟨b8, 16, none⟩ = some (.int .i64 f1) ∧ w2.cell? ⟨b8, 17, none⟩ = some (.bool t2) ∧ w2.cell? ⟨b8, 18, none⟩ = some (.int .i64 f2) ∧ w2.cell? ⟨b8, 19, none⟩ = some (.bool t3) ∧ w2.cell? ⟨b8, 20, none⟩ = some (.int .i64 f3) ∧ w2.cell? ⟨b8, 21, none⟩ = some (.slice a8 n8 c8) ∧ Below w'.heap.size w' w2)
              (exact HXY2.out _ (by (repeat ((fail_if_success (exact Below.refl _ _)); (first | refine bl_drew ?_ | refine bl_alloc ?_ _ | (refine bl_row ?_ (by first | assumption | omega) _) | refine Below.trans ?_ (by assumption) | refine bl_trans ?_ (by assumption)))); exact Below.refl _ _))
              (fail)
            all_goals
              first
                | exact ⟨rfl, _, _, rfl, (by (repeat ((fail_if_success (exact Below.refl _ _)); (first | refine bl_drew ?_ | refine bl_alloc ?_ _ | (refine bl_row ?_ (by first | assumption | omega) _) | refine Below.trans ?_ (by assumption) | refine bl_trans ?_ (by assumption)))); exact Below.refl _ _), (two_rows w' _ _ _).1, (two_rows w' _ _ _).2⟩
                | exact ⟨rfl, _, _, rfl, (by (repeat ((fail_if_success (exact Below.refl _ _)); (first | refine bl_drew ?_ | refine bl_alloc ?_ _ | (refine bl_row ?_ (by first | assumption | omega) _) | refine Below.trans ?_ (by assumption) | refine bl_trans ?_ (by assumption)))); exact Below.refl _ _), (two_rows w' _ _ _).2, (two_rows w' _ _ _).1⟩
          · have HXY2 : Hid (∀ w2, Below w'.heap.size w' w2 → w2.cell? ⟨w.heap.size, 1, none⟩ = some (.int .i64 2) ∧ w2.cell? ⟨bX, 22, none⟩ = some (.bool lv) ∧ w2.cell? ⟨bX, 23, none⟩ = some (.slice a5 n5 c5) ∧ w2.cell? ⟨bX, 24, none⟩ = some (.bool t0) ∧ w2.cell? ⟨bX, 25, none⟩ = some (.int .i64 f0) ∧ w2.cell? ⟨bX, 26, none⟩ = some (.bool t1) ∧ w2.cell? ⟨bX, 27, none⟩ = some (.int .i64 f1) ∧ w2.cell? ⟨bX, 28, none⟩ = some (.bool t2) ∧ w2.cell? ⟨bX, 29, none⟩ = some (.int .i64 f2) ∧ w2.cell? ⟨bX, 30, none⟩ = some (.bool t3) ∧ w2.cell? ⟨bX, 31, none⟩ = some (.int .i64 f3) ∧ w2.cell? ⟨bX, 32, none⟩ = some (.slice a6 n6 c6) ∧ w2.cell? ⟨b8, 22, none⟩ = some (.bool lv) ∧ w2.cell? ⟨b8, 23, none⟩ = some (.slice a7 n7 c7) ∧ w2.cell? ⟨b8, 24, none⟩ = some (.bool t0) ∧ w2.cell? ⟨b8, 25, none⟩ = some (.int .i64 f0) ∧ w2.cell? ⟨b8, 26, none⟩ = some (.bool t1) ∧ w2.cell? ⟨b8, 27, none⟩ = some (.int .i64 f1) ∧ w2.cell? ⟨b8, 28, none⟩ = some (.bool t2) ∧ w2.cell? ⟨b8, 29, none⟩ = some (.int .i64 f2) ∧ w2.cell? ⟨b8, 30, none⟩ = some (.bool t3) ∧ w2.cell? ⟨b8, 31, none⟩ = some (.int .i64 f3) ∧ w2.cell? ⟨b8, 32, none⟩ = some (.slice a8 n8 c8) ∧ Below w'.heap.size w' w2) := HXY.out
            clear HXY hxa hya
            go_region_held3 (fun w2 => w2.cell? ⟨w.heap.size, 1, none⟩ = some (.int .i64 2) ∧ w2.cell? ⟨bX, 22, none⟩ = some (.bool lv) ∧ w2.cell? ⟨bX, 23, none⟩ = some (.slice a5 n5 c5) ∧ w2.cell? ⟨bX, 24, none⟩ = some (.bool t0) ∧ w2.cell? ⟨bX, 25, none⟩ = some (.int .i64 f0) ∧ w2.cell? ⟨bX, 26, none⟩ = some (.bool t1) ∧ w2.cell? ⟨bX, 27, none⟩ = some (.int .i64 f1) ∧ w2.cell? ⟨bX, 28, none⟩ = some (.bool t2) ∧ w2.cell? ⟨bX, 29, none⟩ = some (.int .i64 f2) ∧ w2.cell? ⟨bX, 30, none⟩ = some (.bool t3) ∧ w2.cell? ⟨bX, 31, none⟩ = some (.int .i64 f3) ∧ w2.cell? ⟨bX, 32, none⟩ = some (.slice a6 n6 c6) ∧ w2.cell? ⟨b8, 22, none⟩ = some (.bool lv) ∧ w2.cell? ⟨b8, 23, none⟩ = some (.slice a7 n7 c7) ∧ w2.cell? ⟨b8, 24, none⟩ = some (.bool t0) ∧ w2.cell? ⟨b8, 25, none⟩ = some (.int .i64 f0) ∧ w2.cell? ⟨b8, 26, none⟩ = some (.bool t1) ∧ w2.cell? ⟨b8, 27, none⟩ = some (.int .i64 f1) ∧ w2.cell? ⟨b8, 28, none⟩ = some (.bool t2) ∧ w2.cell? ⟨b8, 29, none⟩ = some (.int .i64 f2) ∧ w2.cell? ⟨b8, 30, none⟩ = some (.bool t3) ∧ w2.cell? ⟨b8, 31, none⟩ = some (.int .i64 f3) ∧ w2.cell? ⟨b8, 32, none⟩ = some (.slice a8 n8 c8) ∧ Below w'.heap.size w' w2)
              (exact HXY2.out _ (by (repeat ((fail_if_success (exact Below.refl _ _)); (first | refine bl_drew ?_ | refine bl_alloc ?_ _ | (refine bl_row ?_ (by first | assumption | omega) _) | refine Below.trans ?_ (by assumption) | refine bl_trans ?_ (by assumption)))); exact Below.refl _ _))
              (fail)
            all_goals
              first
                | exact ⟨rfl, _, _, rfl, (by (repeat ((fail_if_success (exact Below.refl _ _)); (first | refine bl_drew ?_ | refine bl_alloc ?_ _ | (refine bl_row ?_ (by first | assumption | omega) _) | refine Below.trans ?_ (by assumption) | refine bl_trans ?_ (by assumption)))); exact Below.refl _ _), (two_rows w' _ _ _).1, (two_rows w' _ _ _).2⟩
                | exact ⟨rfl, _, _, rfl, (by (repeat ((fail_if_success (exact Below.refl _ _)); (first | refine bl_drew ?_ | refine bl_alloc ?_ _ | (refine bl_row ?_ (by first | assumption | omega) _) | refine Below.trans ?_ (by assumption) | refine bl_trans ?_ (by assumption)))); exact Below.refl _ _), (two_rows w' _ _ _).2, (two_rows w' _ _ _).1⟩
          · have HXY2 : Hid (∀ w2, Below w'.heap.size w' w2 → w2.cell? ⟨w.heap.size, 1, none⟩ = some (.int .i64 3) ∧ w2.cell? ⟨bX, 33, none⟩ = some (.bool lv) ∧ w2.cell? ⟨bX, 34, none⟩ = some (.slice a5 n5 c5) ∧ w2.cell? ⟨bX, 35, none⟩ = some (.bool t0) ∧ w2.cell? ⟨bX, 36, none⟩ = some (.int .i64 f0) ∧ w2.cell? ⟨bX, 37, none⟩ = some (.bool t1) ∧ w2.cell? ⟨bX, 38, none⟩ = some (.int .i64 f1) ∧ w2.cell? ⟨bX, 39, none⟩ = some (.bool t2) ∧ w2.cell? ⟨bX, 40, none⟩ = some (.int .i64 f2) ∧ w2.cell? ⟨bX, 41, none⟩ = some (.bool t3) ∧ w2.cell? ⟨bX, 42, none⟩ = some (.int .i64 f3) ∧ w2.cell? ⟨bX, 43, none⟩ = some (.slice a6 n6 c6) ∧ w2.cell? ⟨b8, 33, none⟩ = some (.bool lv) ∧ w2.cell? ⟨b8, 34, none⟩ = some (.slice a7 n7 c7) ∧ w2.cell? ⟨b8, 35, none⟩ = some (.bool t0) ∧ w2.cell? ⟨b8, 36, none⟩ = some (.int .i64 f0) ∧ w2.cell? ⟨b8, 37, none⟩ = some (.bool t1) ∧ w2.cell? ⟨b8, 38, none⟩ = some (.int .i64 f1) ∧ w2.cell? ⟨b8, 39, none⟩ = some (.bool t2) ∧ w2.cell? ⟨b8, 40, none⟩ = some (.int .i64 f2) ∧ w2.cell? ⟨b8, 41, none⟩ = some (.bool t3) ∧ w2.cell? ⟨b8, 42, none⟩ = some (.int .i64 f3) ∧ w2.cell? ⟨b8, 43, none⟩ = some (.slice a8 n8 c8) ∧ Below w'.heap.size w' w2) := HXY.out
            clear HXY hxa hya
            go_region_held3 (fun w2 => w2.cell? ⟨w.heap.size, 1, none⟩ = some (.int .i64 3) ∧ w2.cell? ⟨bX, 33, none⟩ = some (.bool lv) ∧ w2.cell? ⟨bX, 34, none⟩ = some (.slice a5 n5 c5) ∧ w2.cell? ⟨bX, 35, none⟩ = some (.bool t0) ∧ w2.cell? ⟨bX, 36, none⟩ = some (.int .i64 f0) ∧ w2.cell? ⟨bX, 37, none⟩ = some (.bool t1) ∧ w2.cell? ⟨bX, 38, none⟩ = some (.int .i64 f1) ∧ w2.cell? ⟨bX, 39, none⟩ = some (.bool t2) ∧ w2.cell? ⟨bX, 40, none⟩ = some (.int .i64 f2) ∧ w2.cell? ⟨bX, 41, none⟩ = some (.bool t3) ∧ w2.cell? ⟨bX, 42, none⟩ = some (.int .i64 f3) ∧ w2.cell? ⟨bX, 43, none⟩ = some (.slice a6 n6 c6) ∧ w2.cell? ⟨b8, 33, none⟩ = some (.bool lv) ∧ w2.cell? ⟨b8, 34, none⟩ = some (.slice a7 n7 c7) ∧ w2.cell? ⟨b8, 35, none⟩ = some (.bool t0) ∧ w2.cell? ⟨b8, 36, none⟩ = some (.int .i64 f0) ∧ w2.cell? ⟨b8, 37, none⟩ = some (.bool t1) ∧ w2.cell? ⟨b8, 38, none⟩ = some (.int .i64 f1) ∧ w2.cell? ⟨b8, 39, none⟩ = some (.bool t2) ∧ w2.cell? ⟨b8, 40, none⟩ = some (.int .i64 f2) ∧ w2.cell? ⟨b8, 41, none⟩ = some (.bool t3) ∧ w2.cell? ⟨b8, 42, none⟩ = some (.int .i64 f3) ∧ w2.cell? ⟨b8, 43, none⟩ = some (.slice a8 n8 c8) ∧ Below w'.heap.size w' w2)
              (exact HXY2.out _ (by (repeat ((fail_if_success (exact Below.refl _ _)); (first | refine bl_drew ?_ | refine bl_alloc ?_ _ | (refine bl_row ?_ (by first | assumption | omega) _) | refine Below.trans ?_ (by assumption) | refine bl_trans ?_ (by assumption)))); exact Below.refl _ _))
              (fail)
            all_goals
              first
                | exact ⟨rfl, _, _, rfl, (by (repeat ((fail_if_success (exact Below.refl _ _)); (first | refine bl_drew ?_ | refine bl_alloc ?_ _ | (refine bl_row ?_ (by first | assumption | omega) _) | refine Below.trans ?_ (by assumption) | refine bl_trans ?_ (by assumption)))); exact Below.refl _ _), (two_rows w' _ _ _).1, (two_rows w' _ _ _).2⟩
                | exact ⟨rfl, _, _, rfl, (by (repeat ((fail_if_success (exact Below.refl _ _)); (first | refine bl_drew ?_ | refine bl_alloc ?_ _ | (refine bl_row ?_ (by first | assumption | omega) _) | refine Below.trans ?_ (by assumption) | refine bl_trans ?_ (by assumption)))); exact Below.refl _ _), (two_rows w' _ _ _).2, (two_rows w' _ _ _).1⟩
        · rintro e a' w2 ⟨rfl, b11, b12, rfl, hb2, hr11, hr12⟩
          dsimp only
          have go : ∀ {A : Addr} {v : Value}, w'.cell? A = some v → w2.cell? A = some v := fun hc => (hb2.cell (cell_lt hc)).trans hc
          have hbw2 : Below w.heap.size w w2 := hbw.trans (hb2.mono hbw.size)
          have k8 := go x8
          have k9 := go x9
          have k10 := go x10
          have kz := go z2'
          have kp1 : w2.cell? ⟨b11, 1, none⟩ = some (.slice a5 n5 c5) := by rw [hr11.cell]; rfl
          have kp10 : w2.cell? ⟨b11, 10, none⟩ = some (.slice a6 n6 c6) := by rw [hr11.cell]; rfl
          have kq1 : w2.cell? ⟨b12, 1, none⟩ = some (.slice a7 n7 c7) := by rw [hr12.cell]; rfl
          have kq10 : w2.cell? ⟨b12, 10, none⟩ = some (.slice a8 n8 c8) := by rw [hr12.cell]; rfl
          obtain ⟨rfl, hn4096, hPT⟩ := back_pages (p := ⟨lv, L, (t0, f0, t1, f1, t2, f2, t3, f3), B, T⟩) (q := storB ⟨lv, L, (t0, f0, t1, f1, t2, f2, t3, f3), B, T⟩ oK) rfl HPI.out (hs1.below hb2).pages (hs2.below hb2).pages
          have HEQ : Hid (∀ w1, Below w2.heap.size w2 w1 → Calls Try.prog 13 #[.slice a5 n5 c5, .slice a7 n7 c7] w1 fun e w' => e = .returned (.bool true) ∧ Below w1.heap.size w1 w') := fun w1 hb =>
            requal_is _ _ _ _ 64 w1 (((hs1.below hb2).regs.below hb).recs HPI.out.few.1) (((hs2.below hb2).regs.below hb).recs HPI.out.few.1) (by decide) (by simp [storB])
          have HPT : Hid _ := hPT
          have HST : Hid (∀ a, ¬ (addr.toNat ≤ a ∧ a < (addr + size).toNat) → (storB ⟨lv, L, (t0, f0, t1, f1, t2, f2, t3, f3), B, T⟩ oK).B a = B a) := fun a ha => storB_else _ oK (by
            rw [hoK]
            show ¬ (addr.toNat ≤ a ∧ a < (addr + size * 1).toNat)
            rw [Int.mul_one]
            exact ha)
          generalize storB ⟨lv, L, (t0, f0, t1, f1, t2, f2, t3, f3), B, T⟩ oK = q at HST HPT
          clear x0 x1 x2 x3 x4 x5 x6 x7 x8 x9 x10 x11 y0 y1 y2 y3 y4 y5 y6 y7 y8 y9 y10 y11 z0' z1' z2' z3' hxa hya HXY hs1 hs2 HX HGA hgX hgY hoK HPI hPT go hr11 hr12 hbw hb2 hb0 hbW hn HL1 HL2 hi0 hz0 hz1 hz2 hgl1 hgl2 hp0 hp3 p0d p4d ho
          go_wp2_with fail
          refine Code.wp_mono (Q := fun e a' w3 => e = .normal ∧ ∃ (t96 t97 t98 t99 t100 t101 t102 t103 t104 t105 t106 t107 t108 t109 t110 t111 t112 t113 t114 t115 t116 t117 t118 t119 t120 t121 t122 t123 t124 t125 t126 t127 : Value), a' = ⟨#[.slice a n cap, opV (⟨kind, (p : Int), page, count, rights, key, tagged, draw, addr, size, value, tag⟩ : O12), undef, .pointer (some ⟨w.heap.size, 0, none⟩), .bool false, .pointer (some ⟨b5, 0, none⟩), .slice a2 n c2, .pointer (some ⟨bX, 0, none⟩), .slice (some ⟨b, off, none⟩) (n + 2) c4, .pointer (some ⟨b8, 0, none⟩), .int .i64 (n : Int), .pointer (some ⟨b11, 0, none⟩), .pointer (some ⟨b12, 0, none⟩), undef, undef, undef, .bool true, .bool false, .pointer (some ⟨w.heap.size, 0, none⟩), .agg #[.int .i64 11, .int .i64 (p : Int), .int .i64 page, .int .i64 count, .int .i64 rights, .int .i64 key, .bool tagged, .int .i64 draw, .int .i64 addr, .int .i64 size, .int .i64 value, .int .i64 tag], .pointer (some ⟨b5, 0, none⟩), .tuple #[.slice a2 n c2, .agg X], .slice a n cap, .tuple #[.slice a2 n c2, .agg X], .slice a2 n c2, .agg X, .tuple #[.slice (some ⟨b, off, none⟩) (n + 2) c4, .agg Y], .slice a n cap, v2, .agg #[.int .i64 11, .int .i64 (p : Int), .int .i64 page, .int .i64 count, .int .i64 rights, .int .i64 key, .bool tagged, .int .i64 draw, .int .i64 addr, .int .i64 size, .int .i64 value, .int .i64 tag], .agg #[.int .i64 10, .int .i64 (p : Int), .int .i64 page, .int .i64 count, .int .i64 rights, .int .i64 key, .bool tagged, .int .i64 draw, .int .i64 addr, .int .i64 size, .int .i64 value, .int .i64 tag], .slice (some ⟨s20, 0, none⟩) 2 2, v3, .tuple #[.slice (some ⟨b, off, none⟩) (n + 2) c4, .agg Y], .slice (some ⟨b, off, none⟩) (n + 2) c4, .agg Y, .slice a n cap, .int .i64 (n : Int), .slice (some ⟨b, off, none⟩) (n + 2) c4, .int .i64 ((n : Int) + 2), .int .i64 (n : Int), .int .i64 ((n : Int) + 2), .bool false, .bool false, .slice (some ⟨b, off, none⟩) (n + 2) c4, .int .i64 (n : Int), .pointer (some ⟨b, off + n * 4, none⟩), .pointer (some ⟨b, off + n * 4, none⟩), .int .i64 0, .bool false, .bool false, undef, undef, undef, undef, undef, .slice (some ⟨b, off, none⟩) (n + 2) c4, .int .i64 (n : Int), .int .i64 ((n : Int) + 1), .pointer (some ⟨b, off + (n + 1) * 4, none⟩), .pointer (some ⟨b, off + (n + 1) * 4, none⟩), .int .i64 0, .bool false, undef, undef, undef, undef, undef, undef, undef, undef, undef, undef, undef, undef, undef, undef, undef, undef, undef, undef, undef, undef, undef, undef, undef, undef, undef, .pointer (some ⟨w.heap.size, 1, none⟩), .int .i64 (p : Int), .pointer (some ⟨bX, p * 11, none⟩), .agg #[.bool lv, .slice a5 n5 c5, .bool t0, .int .i64 f0, .bool t1, .int .i64 f1, .bool t2, .int .i64 f2, .bool t3, .int .i64 f3, .slice a6 n8 c6], .pointer (some ⟨w.heap.size, 1, none⟩), .int .i64 (p : Int), .pointer (some ⟨b8, p * 11, none⟩), .agg #[.bool lv, .slice a7 n7 c7, .bool t0, .int .i64 f0, .bool t1, .int .i64 f1, .bool t2, .int .i64 f2, .bool t3, .int .i64 f3, .slice a8 n8 c8], t96, t97, t98, t99, t100, t101, t102, t103, t104, t105, t106, t107, t108, t109, t110, t111, t112, t113, t114, t115, t116, t117, t118, t119, t120, t121, t122, t123, t124, t125, t126, t127, .bool false, undef, undef, undef, undef, undef, undef, undef, undef, undef, undef, undef, undef, undef, undef, undef, undef, undef, undef, undef, undef, undef, undef, undef, undef, undef, undef, undef, undef, undef, undef, undef, undef, undef, undef, undef, undef, undef, undef, undef, undef, undef, undef, undef, undef, undef, undef, undef, undef, undef, undef, undef, undef, undef, undef, undef, undef, undef, undef, undef, undef, undef, undef, undef, undef, undef, undef, undef, undef, undef, undef, undef, undef, undef, undef, undef], []⟩ ∧ Below w2.heap.size w2 w3) ?_ ?_
          rotate_left
          · have hn1 : (n : Int) + 1 < (n : Int) + 2 := by omega
            have hlen2 : ((n8 : Int) != (n8 : Int)) = false := by simp
            obtain rfl | rfl | rfl | rfl : size = 1 ∨ size = 2 ∨ size = 3 ∨ size = 4 := by omega
            · have hv : e2 = value % 256 := hval
              clear hval
              have hv2 : (value % 256 != wrap64 ((IntKind.u64.wrap value).tmod 256)) = false := low_bytes value 256 (by decide) (by decide) (by decide)
              refine wp_region_calm (by kernel_rfl) (by kernel_rfl) (fun W hW _ => ?_)
              have hbW : Below w2.heap.size w2 W := by rw [hW]; exact Below.refl _ _
              have hc0 : ∀ u : Wd W, u.w.cell? ⟨w.heap.size, 9, none⟩ = some (.int .i64 1) := fun u => u.cell ((hbW.cell (cell_lt k9)).trans k9)
              have hc1 : ∀ u : Wd W, u.w.cell? ⟨w.heap.size, 10, none⟩ = some (.int .i64 value) := fun u => u.cell ((hbW.cell (cell_lt k10)).trans k10)
              have hc2 : ∀ u : Wd W, u.w.cell? ⟨b, off + (n + 1) * 4 + 1, none⟩ = some (.int .i64 e2) := fun u => u.cell ((hbW.cell (cell_lt kz)).trans kz)
              have hc3 : ∀ u : Wd W, u.w.cell? ⟨b11, 1, none⟩ = some (.slice a5 n5 c5) := fun u => u.cell ((hbW.cell (cell_lt kp1)).trans kp1)
              have hc4 : ∀ u : Wd W, u.w.cell? ⟨b11, 10, none⟩ = some (.slice a6 n8 c6) := fun u => u.cell ((hbW.cell (cell_lt kp10)).trans kp10)
              have hc5 : ∀ u : Wd W, u.w.cell? ⟨b12, 1, none⟩ = some (.slice a7 n7 c7) := fun u => u.cell ((hbW.cell (cell_lt kq1)).trans kq1)
              have hc6 : ∀ u : Wd W, u.w.cell? ⟨b12, 10, none⟩ = some (.slice a8 n8 c8) := fun u => u.cell ((hbW.cell (cell_lt kq10)).trans kq10)
              clear hW k8 k9 k10 kz kp1 kp10 kq1 kq10
              repeat (go_big_quiet_step (first | (go_at_call 13; exact calm_of (HEQ.out _ (hbW.trans ((Wd.ok _).mono hbW.size))))))
              refine wpQuiet_nil ?_
              rintro w3 ⟨⟨_, hw3⟩, rfl⟩
              exact ⟨rfl, _, _, _, _, _, _, _, _, _, _, _, _, _, _, _, _, _, _, _, _, _, _, _, _, _, _, _, _, _, _, _, _, rfl, hbW.trans (hw3.mono hbW.size)⟩
            · have hv : e2 = value % 65536 := hval
              clear hval
              have hv2 : (value % 65536 != wrap64 ((IntKind.u64.wrap value).tmod 65536)) = false := low_bytes value 65536 (by decide) (by decide) (by decide)
              refine wp_region_calm (by kernel_rfl) (by kernel_rfl) (fun W hW _ => ?_)
              have hbW : Below w2.heap.size w2 W := by rw [hW]; exact Below.refl _ _
              have hc0 : ∀ u : Wd W, u.w.cell? ⟨w.heap.size, 9, none⟩ = some (.int .i64 2) := fun u => u.cell ((hbW.cell (cell_lt k9)).trans k9)
              have hc1 : ∀ u : Wd W, u.w.cell? ⟨w.heap.size, 10, none⟩ = some (.int .i64 value) := fun u => u.cell ((hbW.cell (cell_lt k10)).trans k10)
              have hc2 : ∀ u : Wd W, u.w.cell? ⟨b, off + (n + 1) * 4 + 1, none⟩ = some (.int .i64 e2) := fun u => u.cell ((hbW.cell (cell_lt kz)).trans kz)
              have hc3 : ∀ u : Wd W, u.w.cell? ⟨b11, 1, none⟩ = some (.slice a5 n5 c5) := fun u => u.cell ((hbW.cell (cell_lt kp1)).trans kp1)
              have hc4 : ∀ u : Wd W, u.w.cell? ⟨b11, 10, none⟩ = some (.slice a6 n8 c6) := fun u => u.cell ((hbW.cell (cell_lt kp10)).trans kp10)
              have hc5 : ∀ u : Wd W, u.w.cell? ⟨b12, 1, none⟩ = some (.slice a7 n7 c7) := fun u => u.cell ((hbW.cell (cell_lt kq1)).trans kq1)
              have hc6 : ∀ u : Wd W, u.w.cell? ⟨b12, 10, none⟩ = some (.slice a8 n8 c8) := fun u => u.cell ((hbW.cell (cell_lt kq10)).trans kq10)
              clear hW k8 k9 k10 kz kp1 kp10 kq1 kq10
              repeat (go_big_quiet_step (first | (go_at_call 13; exact calm_of (HEQ.out _ (hbW.trans ((Wd.ok _).mono hbW.size))))))
              refine wpQuiet_nil ?_
              rintro w3 ⟨⟨_, hw3⟩, rfl⟩
              exact ⟨rfl, _, _, _, _, _, _, _, _, _, _, _, _, _, _, _, _, _, _, _, _, _, _, _, _, _, _, _, _, _, _, _, _, rfl, hbW.trans (hw3.mono hbW.size)⟩
            · have hv : e2 = value % 16777216 := hval
              clear hval
              have hv2 : (value % 16777216 != wrap64 ((IntKind.u64.wrap value).tmod 16777216)) = false := low_bytes value 16777216 (by decide) (by decide) (by decide)
              refine wp_region_calm (by kernel_rfl) (by kernel_rfl) (fun W hW _ => ?_)
              have hbW : Below w2.heap.size w2 W := by rw [hW]; exact Below.refl _ _
              have hc0 : ∀ u : Wd W, u.w.cell? ⟨w.heap.size, 9, none⟩ = some (.int .i64 3) := fun u => u.cell ((hbW.cell (cell_lt k9)).trans k9)
              have hc1 : ∀ u : Wd W, u.w.cell? ⟨w.heap.size, 10, none⟩ = some (.int .i64 value) := fun u => u.cell ((hbW.cell (cell_lt k10)).trans k10)
              have hc2 : ∀ u : Wd W, u.w.cell? ⟨b, off + (n + 1) * 4 + 1, none⟩ = some (.int .i64 e2) := fun u => u.cell ((hbW.cell (cell_lt kz)).trans kz)
              have hc3 : ∀ u : Wd W, u.w.cell? ⟨b11, 1, none⟩ = some (.slice a5 n5 c5) := fun u => u.cell ((hbW.cell (cell_lt kp1)).trans kp1)
              have hc4 : ∀ u : Wd W, u.w.cell? ⟨b11, 10, none⟩ = some (.slice a6 n8 c6) := fun u => u.cell ((hbW.cell (cell_lt kp10)).trans kp10)
              have hc5 : ∀ u : Wd W, u.w.cell? ⟨b12, 1, none⟩ = some (.slice a7 n7 c7) := fun u => u.cell ((hbW.cell (cell_lt kq1)).trans kq1)
              have hc6 : ∀ u : Wd W, u.w.cell? ⟨b12, 10, none⟩ = some (.slice a8 n8 c8) := fun u => u.cell ((hbW.cell (cell_lt kq10)).trans kq10)
              clear hW k8 k9 k10 kz kp1 kp10 kq1 kq10
              repeat (go_big_quiet_step (first | (go_at_call 13; exact calm_of (HEQ.out _ (hbW.trans ((Wd.ok _).mono hbW.size))))))
              refine wpQuiet_nil ?_
              rintro w3 ⟨⟨_, hw3⟩, rfl⟩
              exact ⟨rfl, _, _, _, _, _, _, _, _, _, _, _, _, _, _, _, _, _, _, _, _, _, _, _, _, _, _, _, _, _, _, _, _, rfl, hbW.trans (hw3.mono hbW.size)⟩
            · have hv : e2 = value % 4294967296 := hval
              clear hval
              have hv2 : (value % 4294967296 != wrap64 ((IntKind.u64.wrap value).tmod 4294967296)) = false := low_bytes value 4294967296 (by decide) (by decide) (by decide)
              refine wp_region_calm (by kernel_rfl) (by kernel_rfl) (fun W hW _ => ?_)
              have hbW : Below w2.heap.size w2 W := by rw [hW]; exact Below.refl _ _
              have hc0 : ∀ u : Wd W, u.w.cell? ⟨w.heap.size, 9, none⟩ = some (.int .i64 4) := fun u => u.cell ((hbW.cell (cell_lt k9)).trans k9)
              have hc1 : ∀ u : Wd W, u.w.cell? ⟨w.heap.size, 10, none⟩ = some (.int .i64 value) := fun u => u.cell ((hbW.cell (cell_lt k10)).trans k10)
              have hc2 : ∀ u : Wd W, u.w.cell? ⟨b, off + (n + 1) * 4 + 1, none⟩ = some (.int .i64 e2) := fun u => u.cell ((hbW.cell (cell_lt kz)).trans kz)
              have hc3 : ∀ u : Wd W, u.w.cell? ⟨b11, 1, none⟩ = some (.slice a5 n5 c5) := fun u => u.cell ((hbW.cell (cell_lt kp1)).trans kp1)
              have hc4 : ∀ u : Wd W, u.w.cell? ⟨b11, 10, none⟩ = some (.slice a6 n8 c6) := fun u => u.cell ((hbW.cell (cell_lt kp10)).trans kp10)
              have hc5 : ∀ u : Wd W, u.w.cell? ⟨b12, 1, none⟩ = some (.slice a7 n7 c7) := fun u => u.cell ((hbW.cell (cell_lt kq1)).trans kq1)
              have hc6 : ∀ u : Wd W, u.w.cell? ⟨b12, 10, none⟩ = some (.slice a8 n8 c8) := fun u => u.cell ((hbW.cell (cell_lt kq10)).trans kq10)
              clear hW k8 k9 k10 kz kp1 kp10 kq1 kq10
              repeat (go_big_quiet_step (first | (go_at_call 13; exact calm_of (HEQ.out _ (hbW.trans ((Wd.ok _).mono hbW.size))))))
              refine wpQuiet_nil ?_
              rintro w3 ⟨⟨_, hw3⟩, rfl⟩
              exact ⟨rfl, _, _, _, _, _, _, _, _, _, _, _, _, _, _, _, _, _, _, _, _, _, _, _, _, _, _, _, _, _, _, _, _, rfl, hbW.trans (hw3.mono hbW.size)⟩
          · rintro e a' w3 ⟨rfl, t96, t97, t98, t99, t100, t101, t102, t103, t104, t105, t106, t107, t108, t109, t110, t111, t112, t113, t114, t115, t116, t117, t118, t119, t120, t121, t122, t123, t124, t125, t126, t127, rfl, hb3⟩
            dsimp only
            have K8 : Hid (∀ w4, Below w2.heap.size w2 w4 → w4.cell? ⟨w.heap.size, 8, none⟩ = some (.int .i64 addr) ∧ w4.cell? ⟨w.heap.size, 9, none⟩ = some (.int .i64 size) ∧ w4.cell? ⟨b11, 10, none⟩ = some (.slice a6 n8 c6) ∧ w4.cell? ⟨b12, 10, none⟩ = some (.slice a8 n8 c8)) := fun w4 hb => ⟨(hb.cell (cell_lt k8)).trans k8, (hb.cell (cell_lt k9)).trans k9, (hb.cell (cell_lt kp10)).trans kp10, (hb.cell (cell_lt kq10)).trans kq10⟩
            clear HEQ hval kz kp1 kq1 k10 k8 k9 kp10 kq10
            obtain ⟨q8, q9, q10, q11⟩ := K8.out w3 hb3
            go_wp2_with fail
            clear q8 q9 q10 q11
            go_loopw [132] (fun i wr => ∃ k : Nat, k ≤ n8 ∧ i = .int .i64 k ∧ Below w2.heap.size w2 wr) (fun i _ => n8 - (intOf i).toNat)
            case atStart => exact ⟨0, Nat.zero_le _, rfl, hb3⟩
            case round =>
              obtain ⟨k, hk, rfl, hbel⟩ := hrel
              by_cases hlt : k < n8
              · obtain ⟨m, pb, po, qb, qo, ba, ba', ta, ta', bc, bc', tc, tc', hm, rfl, rfl, hcell, hbyte, htag⟩ := HPT.out k hlt
                have HC : Hid _ := hcell
                have HBY : Hid _ := hbyte
                have HTG : Hid _ := htag
                clear hcell hbyte htag
                have hd : decide ((k : Int) < (n8 : Int)) = true := by simp; omega
                obtain ⟨⟨p0, p1, p2⟩, p3, p4⟩ := HC.out wr hbel
                obtain ⟨q8, q9, q10, q11⟩ := K8.out wr hbel
                go_wp2_with fail
                clear p0 p1 p2 p3 p4 q8 q9 q10 q11
                obtain ⟨wo, hwo⟩ : ∃ wo, wo = wr := ⟨_, rfl⟩
                subst hwo
                go_loopw [142] (fun i ws => ∃ j : Nat, j ≤ 64 ∧ i = .int .i64 j ∧ Below w2.heap.size w2 ws) (fun i _ => 64 - (intOf i).toNat)
                case atStart => exact ⟨0, Nat.zero_le _, rfl, hbel⟩
                case round =>
                  obtain ⟨j, hj, rfl, hbel2⟩ := hrel
                  obtain ⟨⟨p0, p1, p2⟩, p3, p4⟩ := HC.out wr hbel2
                  obtain ⟨q8, q9, q10, q11⟩ := K8.out wr hbel2
                  by_cases hlj : j < 64
                  · obtain ⟨g, go', g2, go2, rfl, rfl, hby⟩ := HBY.out j hlj
                    obtain ⟨y1, y2⟩ := hby wr hbel2
                    have hdj : decide ((j : Int) < 64) = true := by simp; omega
                    have hin : (¬ (addr.toNat ≤ m * 64 + j ∧ m * 64 + j < (addr + size).toNat)) → q.B (m * 64 + j) = B (m * 64 + j) := fun h => HST.out _ h
                    have hcase : ((decide ((m : Int) * 64 + j < addr) = true) ∧ q.B (m * 64 + j) = B (m * 64 + j)) ∨ ((decide ((m : Int) * 64 + j < addr) = false ∧ decide (addr + size ≤ (m : Int) * 64 + j) = true) ∧ q.B (m * 64 + j) = B (m * 64 + j)) ∨ (decide ((m : Int) * 64 + j < addr) = false ∧ decide (addr + size ≤ (m : Int) * 64 + j) = false) := by
                      by_cases a1 : (m : Int) * 64 + j < addr
                      · exact Or.inl ⟨by simpa using a1, hin (by omega)⟩
                      · by_cases a2 : addr + size ≤ (m : Int) * 64 + j
                        · exact Or.inr (Or.inl ⟨⟨by simpa using a1, by simpa using a2⟩, hin (by omega)⟩)
                        · exact Or.inr (Or.inr ⟨by simpa using a1, by simpa using a2⟩)
                    generalize q.B (m * 64 + j) = X2 at y2 hcase
                    generalize B (m * 64 + j) = X1 at y1 hcase
                    clear hin hby
                    have q8' := q8
                    have hbelW := hbel2
                    rcases hcase with ⟨u1, rfl⟩ | ⟨⟨u1, u2⟩, rfl⟩ | ⟨u1, u2⟩
                    · have hx : (X2 != X2) = false := by simp
                      go_wp2_with fail
                      refine wp_region_calm (by kernel_rfl) (by kernel_rfl) (fun W hW _ => ?_)
                      have hbW : Below wr.heap.size wr W := by rw [hW]; exact Below.refl _ _
                      have hc0 : ∀ u : Wd W, u.w.cell? ⟨w.heap.size, 8, none⟩ = some (.int .i64 addr) := fun u => u.cell ((hbW.cell (cell_lt q8)).trans q8)
                      have hc1 : ∀ u : Wd W, u.w.cell? ⟨w.heap.size, 9, none⟩ = some (.int .i64 size) := fun u => u.cell ((hbW.cell (cell_lt q9)).trans q9)
                      have hc2 : ∀ u : Wd W, u.w.cell? ⟨b11, 10, none⟩ = some (.slice (some ⟨pb, po, none⟩) n8 c6) := fun u => u.cell ((hbW.cell (cell_lt q10)).trans q10)
                      have hc3 : ∀ u : Wd W, u.w.cell? ⟨b12, 10, none⟩ = some (.slice (some ⟨qb, qo, none⟩) n8 c8) := fun u => u.cell ((hbW.cell (cell_lt q11)).trans q11)
                      have hc4 : ∀ u : Wd W, u.w.cell? ⟨pb, po + k * 3 + 1, none⟩ = some (.slice (some ⟨g, go', none⟩) 64 bc) := fun u => u.cell ((hbW.cell (cell_lt p1)).trans p1)
                      have hc5 : ∀ u : Wd W, u.w.cell? ⟨qb, qo + k * 3 + 1, none⟩ = some (.slice (some ⟨g2, go2, none⟩) 64 bc') := fun u => u.cell ((hbW.cell (cell_lt p3)).trans p3)
                      have hc6 : ∀ u : Wd W, u.w.cell? ⟨g, go' + j, none⟩ = some (.int .u8 X2) := fun u => u.cell ((hbW.cell (cell_lt y1)).trans y1)
                      have hc7 : ∀ u : Wd W, u.w.cell? ⟨g2, go2 + j, none⟩ = some (.int .u8 X2) := fun u => u.cell ((hbW.cell (cell_lt y2)).trans y2)
                      clear hW
                      repeat (go_big_quiet_step (fail))
                      refine wpQuiet_nil ?_
                      rintro w5 ⟨⟨_, hw5⟩, rfl⟩
                      have hb5 : Below w2.heap.size w2 w5 := hbel2.trans ((hbW.trans (hw5.mono hbW.size)).mono hbel2.size)
                      go_wp2
                      go_roundw
                      case rel => exact ⟨j + 1, by omega, by go_num, hb5⟩
                      case measure => simp [intOf]; omega
                    · have hx : (X2 != X2) = false := by simp
                      go_wp2_with fail
                      refine wp_region_calm (by kernel_rfl) (by kernel_rfl) (fun W hW _ => ?_)
                      have hbW : Below wr.heap.size wr W := by rw [hW]; exact Below.refl _ _
                      have hc0 : ∀ u : Wd W, u.w.cell? ⟨w.heap.size, 8, none⟩ = some (.int .i64 addr) := fun u => u.cell ((hbW.cell (cell_lt q8)).trans q8)
                      have hc1 : ∀ u : Wd W, u.w.cell? ⟨w.heap.size, 9, none⟩ = some (.int .i64 size) := fun u => u.cell ((hbW.cell (cell_lt q9)).trans q9)
                      have hc2 : ∀ u : Wd W, u.w.cell? ⟨b11, 10, none⟩ = some (.slice (some ⟨pb, po, none⟩) n8 c6) := fun u => u.cell ((hbW.cell (cell_lt q10)).trans q10)
                      have hc3 : ∀ u : Wd W, u.w.cell? ⟨b12, 10, none⟩ = some (.slice (some ⟨qb, qo, none⟩) n8 c8) := fun u => u.cell ((hbW.cell (cell_lt q11)).trans q11)
                      have hc4 : ∀ u : Wd W, u.w.cell? ⟨pb, po + k * 3 + 1, none⟩ = some (.slice (some ⟨g, go', none⟩) 64 bc) := fun u => u.cell ((hbW.cell (cell_lt p1)).trans p1)
                      have hc5 : ∀ u : Wd W, u.w.cell? ⟨qb, qo + k * 3 + 1, none⟩ = some (.slice (some ⟨g2, go2, none⟩) 64 bc') := fun u => u.cell ((hbW.cell (cell_lt p3)).trans p3)
                      have hc6 : ∀ u : Wd W, u.w.cell? ⟨g, go' + j, none⟩ = some (.int .u8 X2) := fun u => u.cell ((hbW.cell (cell_lt y1)).trans y1)
                      have hc7 : ∀ u : Wd W, u.w.cell? ⟨g2, go2 + j, none⟩ = some (.int .u8 X2) := fun u => u.cell ((hbW.cell (cell_lt y2)).trans y2)
                      clear hW
                      repeat (go_big_quiet_step (fail))
                      refine wpQuiet_nil ?_
                      rintro w5 ⟨⟨_, hw5⟩, rfl⟩
                      have hb5 : Below w2.heap.size w2 w5 := hbel2.trans ((hbW.trans (hw5.mono hbW.size)).mono hbel2.size)
                      go_wp2
                      go_roundw
                      case rel => exact ⟨j + 1, by omega, by go_num, hb5⟩
                      case measure => simp [intOf]; omega
                    · go_wp2_with fail
                      refine wp_region_calm (by kernel_rfl) (by kernel_rfl) (fun W hW _ => ?_)
                      have hbW : Below wr.heap.size wr W := by rw [hW]; exact Below.refl _ _
                      have hc0 : ∀ u : Wd W, u.w.cell? ⟨w.heap.size, 8, none⟩ = some (.int .i64 addr) := fun u => u.cell ((hbW.cell (cell_lt q8)).trans q8)
                      have hc1 : ∀ u : Wd W, u.w.cell? ⟨w.heap.size, 9, none⟩ = some (.int .i64 size) := fun u => u.cell ((hbW.cell (cell_lt q9)).trans q9)
                      clear hW
                      repeat (go_big_quiet_step (fail))
                      refine wpQuiet_nil ?_
                      rintro w5 ⟨⟨_, hw5⟩, rfl⟩
                      have hb5 : Below w2.heap.size w2 w5 := hbel2.trans ((hbW.trans (hw5.mono hbW.size)).mono hbel2.size)
                      go_wp2
                      go_roundw
                      case rel => exact ⟨j + 1, by omega, by go_num, hb5⟩
                      case measure => simp [intOf]; omega
                  · obtain rfl : j = 64 := by omega
                    go_wp2_with fail
                    refine wp_region_calm (by kernel_rfl) (by kernel_rfl) (fun W hW _ => ?_)
                    have hbW : Below wr.heap.size wr W := by rw [hW]; exact Below.refl _ _
                    have hc0 : ∀ u : Wd W, u.w.cell? ⟨b11, 10, none⟩ = some (.slice (some ⟨pb, po, none⟩) n8 c6) := fun u => u.cell ((hbW.cell (cell_lt q10)).trans q10)
                    have hc1 : ∀ u : Wd W, u.w.cell? ⟨b12, 10, none⟩ = some (.slice (some ⟨qb, qo, none⟩) n8 c8) := fun u => u.cell ((hbW.cell (cell_lt q11)).trans q11)
                    have hc2 : ∀ u : Wd W, u.w.cell? ⟨pb, po + k * 3 + 2, none⟩ = some (.slice ta 4 tc) := fun u => u.cell ((hbW.cell (cell_lt p2)).trans p2)
                    have hc3 : ∀ u : Wd W, u.w.cell? ⟨qb, qo + k * 3 + 2, none⟩ = some (.slice ta' 4 tc') := fun u => u.cell ((hbW.cell (cell_lt p4)).trans p4)
                    clear hW
                    repeat (go_big_quiet_step (first | (go_at_call 14; exact calm_of (HTG.out _ (hbel2.trans ((hbW.trans ((Wd.ok _).mono hbW.size)).mono hbel2.size))))))
                    refine wpQuiet_nil ?_
                    rintro w5 ⟨⟨_, hw5⟩, rfl⟩
                    have hb5 : Below w2.heap.size w2 w5 := hbel2.trans ((hbW.trans (hw5.mono hbW.size)).mono hbel2.size)
                    go_wp2
                    go_roundw
                    case rel => exact ⟨k + 1, by omega, by go_num, hb5⟩
                    case measure => simp [intOf]; omega
              · go_wp2
                go_ret
                exact ⟨rfl, hbw2.trans (hbel.mono hbw2.size)⟩
      · skip
        subst he
        clear hS1 hS2 hadr
        rcases hfl with rfl | rfl
        · go_wp2_with fail
          go_ret
          exact ⟨rfl, hbw⟩
        · go_wp2_with fail
          go_ret
          exact ⟨rfl, hbw⟩
    · have hdd : (d1 == 0) = false := by simpa using hd1
      clear HBK
      go_wp2_with fail
      go_ret
      exact ⟨rfl, hbw⟩

end Go.Proofs.Ytbiipnojhjhejaa

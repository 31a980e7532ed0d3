/- The contract of flat.view.shown: the pages of a process, rising, in new memory. -/
import Derived.Test.YtbiipnojhjhejaaFlatPl4
import Derived.Test.YtbiipnojhjhejaaFlatPages
namespace Go.Proofs.Ytbiipnojhjhejaa
set_option maxRecDepth 100000
open Go.RowKit
set_option linter.unusedSimpArgs false
set_option linter.unusedVariables false

/-- The bytes of a process from place f on. -/
def bts (p : Pr) (f n : Nat) : List Int := (List.range n).map fun i => p.B (f + i)
/-- A page as it seems. -/
def pageAt (p : Pr) (n : Nat) : Sl := ((n : Int), bts p (n * 64) 64, tgs p (n * 4) 4)
/-- The first j pages of a region; all pages of regions. -/
def pagesR (p : Pr) (x : R6) (j : Nat) : List Sl := (List.range j).map fun i => pageAt p (x.1.toNat + i)
def pagesL (p : Pr) (l : List R6) : List Sl := l.flatMap fun x => pagesR p x (x.2.1 - x.1).toNat

theorem pagesR_next (p : Pr) (x : R6) (j : Nat) : pagesR p x (j + 1) = pagesR p x j ++ [pageAt p (x.1.toNat + j)] := by
  unfold pagesR
  rw [List.range_succ, List.map_append]
  rfl
theorem pagesR_len (p : Pr) (x : R6) (j : Nat) : (pagesR p x j).length = j := by simp [pagesR]
theorem pagesL_next (p : Pr) (l : List R6) (k : Nat) (hk : k < l.length) : pagesL p (l.take (k + 1)) = pagesL p (l.take k) ++ pagesR p (l.getD k zR) ((l.getD k zR).2.1 - (l.getD k zR).1).toNat := by
  rw [take_snoc l k hk]
  simp [pagesL]
theorem pagesL_len (p : Pr) : ∀ (l : List R6), (∀ x ∈ l, x.2.1 - x.1 ≤ 64) → (pagesL p l).length ≤ 64 * l.length
  | [], _ => by simp [pagesL]
  | x :: r, h => by
    have ih := pagesL_len p r (fun y hy => h y (List.mem_cons_of_mem _ hy))
    have hx := h x List.mem_cons_self
    have e : pagesL p (x :: r) = pagesR p x (x.2.1 - x.1).toNat ++ pagesL p r := by simp [pagesL]
    rw [e, List.length_append, pagesR_len, List.length_cons]
    omega

theorem bts_len (p : Pr) (f n : Nat) : (bts p f n).length = n := by simp [bts]
theorem bts_get (p : Pr) (f n i : Nat) (hi : i < n) : (bts p f n).getD i 0 = p.B (f + i) := by
  unfold bts
  rw [List.getD_eq_getElem?_getD, List.getElem?_map, List.getElem?_range hi]
  rfl

/-- A process, its memory what s has of it. -/
def withM (s : MV) (k : Nat) (q : Pr) : Pr := { q with B := s.B k, T := s.T k }

theorem PlOK.bytes {gm : Nat} {w : World} {s : MV} (h : PlOK gm w s) {k : Nat} (hk : k < 4) (q : Pr) (hb : ∀ a, 0 ≤ s.B k a ∧ s.B k a ≤ 255) {f n : Nat} (hn : f + n ≤ 4096) (c : Nat) (hc : n ≤ c) : IsBytes w (.slice (some ⟨gm, k * 4352 + f, none⟩) n c) (bts (withM s k q) f n) := by
  refine ⟨_, c, by rw [bts_len], by rw [bts_len]; exact hc, by rw [bts_len]; omega, fun i => ?_, fun _ => ⟨gm, _, rfl, fun i hi' => ?_⟩⟩
  · by_cases hi' : i < n
    · rw [bts_get _ _ _ _ hi']
      exact hb _
    · rw [List.getD_eq_getElem?_getD, List.getElem?_eq_none (by rw [bts_len]; omega)]
      exact ⟨by decide, by decide⟩
  · rw [bts_len] at hi'
    rw [bts_get _ _ _ _ hi', Nat.add_assoc]
    exact h.byte hk (by omega)

theorem PlOK.tagRecs {gm : Nat} {w : World} {s : MV} (h : PlOK gm w s) {k : Nat} (hk : k < 4) (q : Pr) {f n : Nat} (hn : f + n ≤ 256) (c : Nat) (hc : n ≤ c) : IsRecs encI 17592186043904 w (.slice (some ⟨gm, k * 4352 + 4096 + f, none⟩) n c) (tgs (withM s k q) f n) := by
  refine ⟨_, c, by rw [tgs_len], by rw [tgs_len]; exact hc, by rw [tgs_len]; omega, fun _ => ⟨gm, _, rfl, fun i u hu => ?_⟩⟩
  have hlt := (List.getElem?_eq_some_iff.1 hu).1
  rw [flatL_len shI, tgs_len, Nat.mul_one] at hlt
  have e := flatL_get shI (tgs (withM s k q) f n) 0 i 0 (by rw [tgs_len]; exact hlt) (by decide)
  rw [Nat.mul_one, Nat.add_zero] at e
  rw [e, tgs_get _ _ _ _ hlt] at hu
  have hu' : u = .int .i64 (s.T k (f + i)) := by simp [encI, withM] at hu; exact hu.symm
  rw [hu', Nat.add_assoc]
  exact h.tag hk (by omega)

theorem box3 (W : World) (s : Nat) (hs : s = W.heap.size) (x : V3) (ty : TypeId) : ∀ j u, (encS x)[j]? = some u → (W.alloc (.cells #[.int .i64 x.1, .slice x.2.1.1 x.2.1.2.1 x.2.1.2.2, .slice x.2.2.1 x.2.2.2.1 x.2.2.2.2] ty)).cell? (Addr.add ⟨s, 0, none⟩ j) = some u := by
  intro j v hj
  subst hs
  rw [add_none, Nat.zero_add]
  have : OwnRow (W.alloc (.cells #[.int .i64 x.1, .slice x.2.1.1 x.2.1.2.1 x.2.1.2.2, .slice x.2.2.1 x.2.2.2.1 x.2.2.2.2] ty)) W.heap.size ty (encS x) := heap_alloc_new W _
  rw [this.cell, hj]

/-- Pages of the call's own, made behind base. -/
def OwnPg (base : Nat) (w : World) (v : Value) (l : List Sl) : Prop := ∃ L : List V3, L.length = l.length ∧ OwnR 54 3 encS base w v L ∧ ∀ i, i < l.length → Own3 base w (L.getD i v0) (l.getD i z0)

theorem OwnPg.below {base : Nat} {w w' : World} {v : Value} {l : List Sl} (h : OwnPg base w v l) (hb : Below w.heap.size w w') : OwnPg base w' v l := by
  obtain ⟨L, h1, h2, h3⟩ := h
  exact ⟨L, h1, h2.below hb, fun i hi => (h3 i hi).below hb⟩

theorem ownPg_nil (base : Nat) (w : World) : OwnPg base w (.slice none 0 0) [] := ⟨[], rfl, ownR_nil _ _ _, fun i hi => by simp at hi⟩

theorem OwnPg.slots {base : Nat} {w : World} {v : Value} {l : List Sl} (h : OwnPg base w v l) (hl : l.length ≤ 2513169434843) : IsSlots w v l := by
  obtain ⟨L, h1, h2, h3⟩ := h
  exact ⟨L, h1, h2.recs (by rw [h1]; exact hl), fun i hi => (h3 i hi).rd⟩

/-- All rows but those of one type stay. -/
def Keeps (e : TypeId) (w w' : World) : Prop := ∀ (h : Nat) (c : Array Value) (e' : TypeId) (fr : Nat × Nat), w.heap[h]? = some (.cells c e' fr) → e' ≠ e → w'.heap[h]? = some (.cells c e' fr)

theorem keeps_of {α : Type} {m : Nat} {enc : α → List Value} {e : TypeId} {base : Nat} {w w' : World} {v : Value} {l : List α} (hown : OwnR e m enc base w v l) (hg : w.grownBy w' v.ownBlock) : Keeps e w w' := by
  intro h c e' fr hh hne
  rw [hg.block h (Array.getElem?_eq_some_iff.1 hh).1 ?_, hh]
  intro heq
  obtain ⟨-, ⟨rfl, -⟩ | ⟨g, cap, cur, rfl, -, hgg, -⟩⟩ := hown
  · cases heq
  · simp only [Value.ownBlock, Option.some.injEq] at heq
    subst heq
    rw [hgg] at hh
    simp only [Option.some.injEq, Obj.cells.injEq] at hh
    exact hne hh.2.1.symm

theorem ownsRow_keeps {e e' : TypeId} {base n m : Nat} {w w' : World} {v : Value} {xs : List Value} (h : w.ownsRow base e' m v n xs) (hk : Keeps e w w') (hne : e' ≠ e) : w'.ownsRow base e' m v n xs := by
  obtain ⟨h1, h2 | ⟨g, cap, cur, rfl, hbg, hg, hr⟩⟩ := h
  · exact ⟨h1, Or.inl h2⟩
  · exact ⟨h1, Or.inr ⟨g, cap, cur, rfl, hbg, hk _ _ _ _ hg hne, hr⟩⟩

theorem Own3.keeps {base : Nat} {w w' : World} {x : V3} {y : Sl} (h : Own3 base w x y) (hk : Keeps 54 w w') : Own3 base w' x y :=
  ⟨h.1, ⟨ownsRow_keeps h.2.1.1 hk (by decide), h.2.1.2⟩, ownsRow_keeps h.2.2.1 hk (by decide), h.2.2.2⟩

theorem step_append_keeps {α : Type} {m : Nat} {enc : α → List Value} {P : Program} {ops : Array Oper} {o : Oper} {a : Act} {W : World} {K : Act → World → Prop} {Q : Exit → Act → World → Prop} {E : Prop} (S : Shape α m enc)
    (hg : o.guard = none) (s x : Operand) (t e : TypeId) (i : TypeInfo) (z : Value) (bytes : Nat) (hop : o.op = Op.call { callee := Callee.builtin Builtin.append, args := #[s, x], argTypes := #[t, t] })
    (ht : P.underlying t = some (.slice e)) (hi : P.info? e = some i) (hz0 : i.zero = some z) (hz1 : i.size = m) (hz2 : i.bytes = bytes) (hzs : z.cells.size = m)
    (base : Nat) (v : Value) (l : List α) (hs : a.eval s = v) (wr : World) (hown : OwnR e m enc base wr v l) (hbW : Below wr.heap.size wr W) (hbase : base ≤ wr.heap.size) (hlen : (l.length + 1) * bytes ≤ 140737488355328) (hlen2 : l.length + 1 ≤ maxLen)
    (p : α) (ad : Addr) (c : Nat) (hx : a.eval x = .slice (some ad) 1 c) (hn : ∀ j u, (enc p)[j]? = some u → W.cell? (ad.add j) = some u)
    (h : ∀ v' w', OwnR e m enc base w' v' (l ++ [p]) → Below base W w' → Keeps e W w' → K (a.put o.dst v') w') :
    if Region.wanted o (yielded ops a.tmps) = true then Oper.wp P o a W K Q else E := by
  have hw : Region.wanted o (yielded ops a.tmps) = true := by simp [Region.wanted, hg]
  have hbW2 := hbW.size
  rw [if_pos hw]
  refine wp_append_own W s x t hop base e i z m bytes ht hi hz0 hz1 hz2 hzs S.pos v l.length (flatL enc l) hs (hown.below hbW) ad 1 c (enc p) hx (by rw [S.len, Nat.one_mul]) hn (S.one p) hlen2 hlen (by omega) ?_
  intro v' w' hown' hgrow _
  refine h v' w' ?_ ((Below.refl _ _).grown hgrow (by omega) (fun k hk => (hown.lt k hk).1)) (keeps_of (hown.below hbW) hgrow)
  unfold OwnR
  rw [flatL_append, List.length_append, flatL_one]
  exact hown'

/-- One page more. -/
theorem ownPg_snoc {base : Nat} {w w' : World} {v' : Value} {L : List V3} {l : List Sl} {x : V3} {y : Sl} (hL : L.length = l.length) (h3 : ∀ i, i < l.length → Own3 base w (L.getD i v0) (l.getD i z0)) (hx : Own3 base w x y) (hk : Keeps 54 w w') (ho : OwnR 54 3 encS base w' v' (L ++ [x])) : OwnPg base w' v' (l ++ [y]) := by
  refine ⟨L ++ [x], by simp [hL], ho, fun i hi => ?_⟩
  rw [List.length_append, List.length_singleton] at hi
  by_cases h : i < l.length
  · have e1 : (L ++ [x]).getD i v0 = L.getD i v0 := by rw [List.getD_eq_getElem?_getD, List.getElem?_append_left (by omega), List.getD_eq_getElem?_getD]
    have e2 : (l ++ [y]).getD i z0 = l.getD i z0 := by rw [List.getD_eq_getElem?_getD, List.getElem?_append_left h, List.getD_eq_getElem?_getD]
    rw [e1, e2]
    exact (h3 i h).keeps hk
  · have hil : i = l.length := by omega
    have e1 : (L ++ [x]).getD i v0 = x := by rw [List.getD_eq_getElem?_getD, List.getElem?_append_right (by omega), hil, ← hL]; simp
    have e2 : (l ++ [y]).getD i z0 = y := by rw [List.getD_eq_getElem?_getD, List.getElem?_append_right (by omega), hil]; simp
    rw [e1, e2]
    exact hx.keeps hk

theorem page_nums (n : Nat) (hn : n < 64) : IntKind.i64.wrap ((n : Int) * 64) = ((n * 64 : Nat) : Int) ∧ IntKind.i64.wrap (IntKind.i64.wrap ((n : Int) + 1) * 64) = ((n * 64 + 64 : Nat) : Int) ∧ IntKind.i64.wrap ((n : Int) * 4) = ((n * 4 : Nat) : Int) ∧ IntKind.i64.wrap (IntKind.i64.wrap ((n : Int) + 1) * 4) = ((n * 4 + 4 : Nat) : Int) := by
  have e : IntKind.i64.wrap ((n : Int) + 1) = (n : Int) + 1 := by rw [IntKind.wrap_i64]; omega
  rw [e]
  simp only [IntKind.wrap_i64]
  omega

set_option maxHeartbeats 3200000 in
theorem vshown_any (gm : Nat) (s : MV) (k : Nat) (hk : k < 4) (q : Pr) (v : Value) (w : World) (h : PlOK gm w s) (h2 : IsRecs encR 64 w v q.L) (hG : Good 0 none q.L) (hB : q.L ≠ [] → ∀ a, 0 ≤ s.B k a ∧ s.B k a ≤ 255) :
    Calls Try.prog 34 #[.pointer (some ⟨gm, k * 4352, none⟩), v] w fun e w' => ∃ a n c, e = .returned (.slice a n c) ∧ OwnPg w.heap.size w' (.slice a n c) (pagesL (withM s k q) q.L) ∧ Below w.heap.size w w' := by
  have HW : Hid (∀ w1, Below w.heap.size w w1 → PlOK gm w1 s) := fun w1 hb => h.below hb
  have h64 := good_len hG
  have hA := hG.asc (by decide)
  have HIN : Hid (∀ j, j < q.L.length → 0 ≤ (q.L.getD j zR).1 ∧ (q.L.getD j zR).1 < (q.L.getD j zR).2.1 ∧ (q.L.getD j zR).2.1 ≤ 64) := fun j hj => by
    rw [List.getD_eq_getElem?_getD, List.getElem?_eq_getElem hj]
    exact asc_mem hA _ (List.getElem_mem hj)
  have HMX : Hid (∀ j, (pagesL (withM s k q) (q.L.take j)).length ≤ 4096) := fun j => by
    have := pagesL_len (withM s k q) (q.L.take j) (fun x hx => by have := asc_mem hA x (List.mem_of_mem_take hx); omega)
    have h3 : (q.L.take j).length ≤ 64 := by rw [List.length_take]; omega
    omega
  have HBY : Hid (∀ j, j < q.L.length → ∀ w1 (n : Nat), n < 64 → Below w.heap.size w w1 → Calls Try.prog 39 #[.slice (some ⟨gm, k * 4352 + n * 64, none⟩) 64 (4096 - n * 64)] w1 fun e w' => ∃ a c, e = .returned (.slice a 64 c) ∧ OwnU w1.heap.size w' (.slice a 64 c) (bts (withM s k q) (n * 64) 64) ∧ Below w1.heap.size w1 w') := fun j hj w1 n hn hb => by
    have := uclone_any _ _ w1 ((HW.out _ hb).bytes hk q (hB (fun he => by rw [he] at hj; simp at hj)) (f := n * 64) (n := 64) (by omega) (4096 - n * 64) (by omega))
    rw [bts_len] at this
    exact this
  have HTG : Hid (∀ w1 (n : Nat), n < 64 → Below w.heap.size w w1 → Calls Try.prog 40 #[.slice (some ⟨gm, k * 4352 + 4096 + n * 4, none⟩) 4 (256 - n * 4)] w1 fun e w' => ∃ a c, e = .returned (.slice a 4 c) ∧ OwnR 3 1 encI w1.heap.size w' (.slice a 4 c) (tgs (withM s k q) (n * 4) 4) ∧ Below w1.heap.size w1 w') := fun w1 n hn hb => by
    have := iclone_any _ _ w1 ((HW.out _ hb).tagRecs hk q (f := n * 4) (n := 4) (by omega) (256 - n * 4) (by omega))
    rw [tgs_len] at this
    exact this
  obtain ⟨a1, cap1, he, hlc, hl, hc'⟩ := h2
  subst he
  obtain ⟨i0, hi0, hz0, hz1, hz2⟩ := info_parts info_slot
  have hg := h.lt
  obtain ⟨p, hp⟩ : ∃ p, p = withM s k q := ⟨_, rfl⟩
  rw [← hp] at HMX HBY HTG ⊢
  obtain ⟨l, hl0⟩ : ∃ l, l = q.L := ⟨_, rfl⟩
  rw [← hl0] at HIN HMX HBY hc' hl h64 hlc ⊢
  obtain ⟨m, hm⟩ : ∃ m, Hid (m = l.length) := ⟨_, rfl⟩
  rw [← hm.out] at HIN HBY hc' hl h64 hlc ⊢
  clear h hG hA hp hl0 HW hB
  go_enter Try.func34, Try.ntmps34
  go_wp2_with fail
  go_loopw [5, 11] (fun q i wr => ∃ (j : Nat) (a n c : _), j ≤ m ∧ q = .slice a n c ∧ i = .int .i64 j ∧ Hid (OwnPg w.heap.size wr (.slice a n c) (pagesL p (l.take j))) ∧ Below w.heap.size w wr) (fun _ i _ => m - (intOf i).toNat)
  case atStart => exact ⟨0, none, 0, 0, Nat.zero_le _, rfl, rfl, ownPg_nil _ _, Below.refl _ _⟩
  case round =>
    obtain ⟨j, oa, on, oc, hj, rfl, rfl, hown, hbel⟩ := hrel
    by_cases hlt : j < m
    · obtain ⟨b, off, rfl, hc⟩ := hc' (by omega)
      have hjl : j < l.length := by rw [← hm.out]; exact hlt
      have HNXT : Hid _ := pagesL_next p l j hjl
      obtain ⟨i1, i2, i3⟩ := HIN.out j hlt
      obtain ⟨⟨xf, xt, xr, xk, xg, xs⟩, hx⟩ : ∃ x, x = l.getD j zR := ⟨_, rfl⟩
      obtain ⟨hk0, hk1, hk2, hk3, hk4, hk5⟩ := cell6 hc hbel j hjl hx
      rw [← hx] at HNXT i1 i2 i3
      clear hx hc
      simp only at i1 i2 i3
      obtain ⟨xa, rfl⟩ : ∃ q : Nat, xf = q := ⟨xf.toNat, by omega⟩
      obtain ⟨xb, rfl⟩ : ∃ q : Nat, xt = q := ⟨xt.toNat, by omega⟩
      have HB0 : Hid (OwnRow (wr.alloc (.cells #[.int .i64 (xa : Int), .int .i64 (xb : Int), .int .i64 xr, .int .i64 xk, .bool xg, .bool xs] 50)) wr.heap.size 50 [.int .i64 (xa : Int), .int .i64 (xb : Int), .int .i64 xr, .int .i64 xk, .bool xg, .bool xs] ∧ Below w.heap.size w (wr.alloc (.cells #[.int .i64 (xa : Int), .int .i64 (xb : Int), .int .i64 xr, .int .i64 xk, .bool xg, .bool xs] 50))) := ⟨heap_alloc_new wr _, below_al hbel _⟩
      have HO0 : Hid (OwnPg w.heap.size (wr.alloc (.cells #[.int .i64 (xa : Int), .int .i64 (xb : Int), .int .i64 xr, .int .i64 xk, .bool xg, .bool xs] 50)) (.slice oa on oc) (pagesL p (l.take j) ++ pagesR p ((xa : Int), (xb : Int), xr, xk, xg, xs) 0)) := by
        have := hown.out.below ((Below.refl _ _).alloc (Nat.le_refl _) (.cells #[.int .i64 (xa : Int), .int .i64 (xb : Int), .int .i64 xr, .int .i64 xk, .bool xg, .bool xs] 50))
        have e : pagesL p (l.take j) ++ pagesR p ((xa : Int), (xb : Int), xr, xk, xg, xs) 0 = pagesL p (l.take j) := by simp [pagesR]
        show OwnPg _ _ _ _
        rw [e]
        exact this
      have HM2 : Hid _ := HMX.out j
      have hdj : decide ((j : Int) < (m : Int)) = true := by simp; omega
      clear hown
      obtain ⟨wo, rfl⟩ : ∃ wo, wo = wr := ⟨_, rfl⟩
      go_wp2_with fail
      go_loopw [5, 8] (fun q i ws => ∃ (N : Nat) (a n c : _), xa ≤ N ∧ N ≤ xb ∧ q = .slice a n c ∧ i = .int .i64 N ∧ Hid (OwnPg w.heap.size ws (.slice a n c) (pagesL p (l.take j) ++ pagesR p ((xa : Int), (xb : Int), xr, xk, xg, xs) (N - xa))) ∧ Hid (OwnRow ws wo.heap.size 50 [.int .i64 (xa : Int), .int .i64 (xb : Int), .int .i64 xr, .int .i64 xk, .bool xg, .bool xs]) ∧ Below w.heap.size w ws) (fun _ i _ => xb - (intOf i).toNat)
      case atStart => exact ⟨xa, oa, on, oc, Nat.le_refl _, by omega, rfl, rfl, by show OwnPg _ _ _ _; rw [Nat.sub_self]; exact HO0.out, HB0.out.1, HB0.out.2⟩
      case round =>
        obtain ⟨N, pa, pn, pc, hN1, hN2, rfl, rfl, hown, hxb, hbw⟩ := hrel
        obtain ⟨c0, c1, c2, c3, c4, c5⟩ := hxb.out.six
        have hxlt := hxb.out.lt
        by_cases hlt2 : N < xb
        · obtain ⟨P1, P2, P3, P4⟩ := page_nums N (by omega)
          have HP : Hid (_ ∧ _ ∧ _ ∧ _) := ⟨P1, P2, P3, P4⟩
          clear P1 P2 P3 P4
          have HB1 : Hid (∀ w1, Below w.heap.size w w1 → Calls Try.prog 39 #[.slice (some ⟨gm, k * 4352 + N * 64, none⟩) 64 (4096 - N * 64)] w1 fun e w' => ∃ a c, e = .returned (.slice a 64 c) ∧ OwnU w1.heap.size w' (.slice a 64 c) (bts p (N * 64) 64) ∧ Below w1.heap.size w1 w') := fun w1 hb => HBY.out j hlt w1 N (by omega) hb
          have HT1 : Hid (∀ w1, Below w.heap.size w w1 → Calls Try.prog 40 #[.slice (some ⟨gm, k * 4352 + 4096 + N * 4, none⟩) 4 (256 - N * 4)] w1 fun e w' => ∃ a c, e = .returned (.slice a 4 c) ∧ OwnR 3 1 encI w1.heap.size w' (.slice a 4 c) (tgs p (N * 4) 4) ∧ Below w1.heap.size w1 w') := fun w1 hb => HTG.out w1 N (by omega) hb
          have HN64 : Hid (N < 64 ∧ N - xa < 64) := ⟨by omega, by omega⟩
          obtain ⟨wz, rfl⟩ : ∃ wz, wz = wr := ⟨_, rfl⟩
          have HNEXT : Hid (pagesL p (l.take j) ++ pagesR p ((xa : Int), (xb : Int), xr, xk, xg, xs) (N + 1 - xa) = (pagesL p (l.take j) ++ pagesR p ((xa : Int), (xb : Int), xr, xk, xg, xs) (N - xa)) ++ [pageAt p N]) := by
            show _ = _
            rw [show N + 1 - xa = N - xa + 1 by omega, pagesR_next, List.append_assoc]
            simp only [Int.toNat_natCast]
            rw [show xa + (N - xa) = N by omega]
          go_wp2_with fail
          refine wp_region_noPanic ?_
          refine wp_region_held_drew (S := (fun w' => Below w.heap.size w w')) (by kernel_rfl) (hbw.drew) (fun hHeld => ?_)
          refine take_to 0 (some 23) (v := ?_) rfl rfl (by kernel_rfl) (by kernel_rfl) (by kernel_rfl) (fun _ _ _ h => h) (Or.inl ⟨by rfl, ?_⟩) (by assumption) ?_
          rotate_left
          · intro w hSw
            (try dsimp only at hSw)
            go_simp
            with_reducible rfl
          simp only [Act.put, List.setIfInBounds_toArray, List.set_cons_zero, List.set_cons_succ]
          refine take_to 1 (some 24) (v := ?_) rfl rfl (by kernel_rfl) (by kernel_rfl) (by kernel_rfl) (fun _ _ _ h => h) (Or.inl ⟨by rfl, ?_⟩) (by assumption) ?_
          rotate_left
          · intro w hSw
            (try dsimp only at hSw)
            go_simp
            with_reducible rfl
          simp only [Act.put, List.setIfInBounds_toArray, List.set_cons_zero, List.set_cons_succ]
          refine take_to 2 (some 25) (v := ?_) rfl rfl (by kernel_rfl) (by kernel_rfl) (by kernel_rfl) (fun _ _ _ h => h) (Or.inl ⟨by rfl, ?_⟩) (by assumption) ?_
          rotate_left
          · intro w hSw
            (try dsimp only at hSw)
            go_simp
            with_reducible rfl
          simp only [Act.put, List.setIfInBounds_toArray, List.set_cons_zero, List.set_cons_succ]
          refine take_to 3 (some 26) (v := ?_) rfl rfl (by kernel_rfl) (by kernel_rfl) (by kernel_rfl) (fun _ _ _ h => h) (Or.inl ⟨by rfl, ?_⟩) (by assumption) ?_
          rotate_left
          · intro w hSw
            (try dsimp only at hSw)
            go_simp
            with_reducible rfl
          simp only [Act.put, List.setIfInBounds_toArray, List.set_cons_zero, List.set_cons_succ]
          refine take_to 4 (some 27) (v := ?_) rfl rfl (by kernel_rfl) (by kernel_rfl) (by kernel_rfl) (fun _ _ _ h => h) (Or.inl ⟨by rfl, ?_⟩) (by assumption) ?_
          rotate_left
          · intro w hSw
            (try dsimp only at hSw)
            go_simp
            with_reducible rfl
          simp only [Act.put, List.setIfInBounds_toArray, List.set_cons_zero, List.set_cons_succ]
          refine take_to 5 (some 28) (v := ?_) rfl rfl (by kernel_rfl) (by kernel_rfl) (by kernel_rfl) (fun _ _ _ h => h) (Or.inl ⟨by rfl, ?_⟩) (by assumption) ?_
          rotate_left
          · intro w hSw
            (try dsimp only at hSw)
            go_simp
            with_reducible rfl
          simp only [Act.put, List.setIfInBounds_toArray, List.set_cons_zero, List.set_cons_succ]
          refine take_to 6 (some 29) (v := ?_) rfl rfl (by kernel_rfl) (by kernel_rfl) (by kernel_rfl) (fun _ _ _ h => h) (Or.inl ⟨by rfl, ?_⟩) (by assumption) ?_
          rotate_left
          · intro w hSw
            (try dsimp only at hSw)
            go_simp
            with_reducible rfl
          simp only [Act.put, List.setIfInBounds_toArray, List.set_cons_zero, List.set_cons_succ]
          refine take_to 7 (some 30) (v := ?_) rfl rfl (by kernel_rfl) (by kernel_rfl) (by kernel_rfl) (fun _ _ _ h => h) (Or.inl ⟨by rfl, ?_⟩) (by assumption) ?_
          rotate_left
          · intro w hSw
            (try dsimp only at hSw)
            go_simp
            with_reducible rfl
          simp only [Act.put, List.setIfInBounds_toArray, List.set_cons_zero, List.set_cons_succ]
          refine take_to 8 (some 31) (v := ?_) rfl rfl (by kernel_rfl) (by kernel_rfl) (by kernel_rfl) (fun _ _ _ h => h) (Or.inl ⟨by rfl, ?_⟩) (by assumption) ?_
          rotate_left
          · intro w hSw
            (try dsimp only at hSw)
            go_simp
            with_reducible rfl
          simp only [Act.put, List.setIfInBounds_toArray, List.set_cons_zero, List.set_cons_succ]
          refine take_to 9 (some 32) (v := ?_) rfl rfl (by kernel_rfl) (by kernel_rfl) (by kernel_rfl) (fun _ _ _ h => h) (Or.inl ⟨by rfl, ?_⟩) (by assumption) ?_
          rotate_left
          · intro w hSw
            (try dsimp only at hSw)
            go_simp
            with_reducible rfl
          simp only [Act.put, List.setIfInBounds_toArray, List.set_cons_zero, List.set_cons_succ]
          refine take_to 10 (some 33) (v := .slice (some ⟨gm, k * 4352 + N * 64, none⟩) 64 (4096 - N * 64)) rfl rfl (by kernel_rfl) (by kernel_rfl) (by kernel_rfl) (fun _ _ _ h => h) (Or.inl ⟨by rfl, ?_⟩) (by assumption) ?_
          · intro w hSw
            have s1 := slice_bytes w gm (k * 4352) (N * 64) 64 (by decide) (by have := HN64.out; omega) _ _ HP.out.1 HP.out.2.1
            go_simp
          simp only [Act.put, List.setIfInBounds_toArray, List.set_cons_zero, List.set_cons_succ]
          refine take_to 12 (some 35) (v := ?_) rfl rfl (by kernel_rfl) (by kernel_rfl) (by kernel_rfl) (fun _ _ _ h => h) (Or.inl ⟨by rfl, ?_⟩) (by assumption) ?_
          rotate_left
          · intro w hSw
            (try dsimp only at hSw)
            go_simp
            with_reducible rfl
          simp only [Act.put, List.setIfInBounds_toArray, List.set_cons_zero, List.set_cons_succ]
          refine take_to 13 (some 36) (v := ?_) rfl rfl (by kernel_rfl) (by kernel_rfl) (by kernel_rfl) (fun _ _ _ h => h) (Or.inl ⟨by rfl, ?_⟩) (by assumption) ?_
          rotate_left
          · intro w hSw
            (try dsimp only at hSw)
            go_simp
            with_reducible rfl
          simp only [Act.put, List.setIfInBounds_toArray, List.set_cons_zero, List.set_cons_succ]
          refine take_to 14 (some 37) (v := ?_) rfl rfl (by kernel_rfl) (by kernel_rfl) (by kernel_rfl) (fun _ _ _ h => h) (Or.inl ⟨by rfl, ?_⟩) (by assumption) ?_
          rotate_left
          · intro w hSw
            (try dsimp only at hSw)
            go_simp
            with_reducible rfl
          simp only [Act.put, List.setIfInBounds_toArray, List.set_cons_zero, List.set_cons_succ]
          refine take_to 15 (some 38) (v := ?_) rfl rfl (by kernel_rfl) (by kernel_rfl) (by kernel_rfl) (fun _ _ _ h => h) (Or.inl ⟨by rfl, ?_⟩) (by assumption) ?_
          rotate_left
          · intro w hSw
            (try dsimp only at hSw)
            go_simp
            with_reducible rfl
          simp only [Act.put, List.setIfInBounds_toArray, List.set_cons_zero, List.set_cons_succ]
          refine take_to 16 (some 39) (v := ?_) rfl rfl (by kernel_rfl) (by kernel_rfl) (by kernel_rfl) (fun _ _ _ h => h) (Or.inl ⟨by rfl, ?_⟩) (by assumption) ?_
          rotate_left
          · intro w hSw
            (try dsimp only at hSw)
            go_simp
            with_reducible rfl
          simp only [Act.put, List.setIfInBounds_toArray, List.set_cons_zero, List.set_cons_succ]
          refine take_to 17 (some 40) (v := ?_) rfl rfl (by kernel_rfl) (by kernel_rfl) (by kernel_rfl) (fun _ _ _ h => h) (Or.inl ⟨by rfl, ?_⟩) (by assumption) ?_
          rotate_left
          · intro w hSw
            (try dsimp only at hSw)
            go_simp
            with_reducible rfl
          simp only [Act.put, List.setIfInBounds_toArray, List.set_cons_zero, List.set_cons_succ]
          refine take_to 18 (some 41) (v := ?_) rfl rfl (by kernel_rfl) (by kernel_rfl) (by kernel_rfl) (fun _ _ _ h => h) (Or.inl ⟨by rfl, ?_⟩) (by assumption) ?_
          rotate_left
          · intro w hSw
            (try dsimp only at hSw)
            go_simp
            with_reducible rfl
          simp only [Act.put, List.setIfInBounds_toArray, List.set_cons_zero, List.set_cons_succ]
          refine take_to 19 (some 42) (v := ?_) rfl rfl (by kernel_rfl) (by kernel_rfl) (by kernel_rfl) (fun _ _ _ h => h) (Or.inl ⟨by rfl, ?_⟩) (by assumption) ?_
          rotate_left
          · intro w hSw
            (try dsimp only at hSw)
            go_simp
            with_reducible rfl
          simp only [Act.put, List.setIfInBounds_toArray, List.set_cons_zero, List.set_cons_succ]
          refine take_to 20 (some 43) (v := .slice (some ⟨gm, k * 4352 + 4096 + N * 4, none⟩) 4 (256 - N * 4)) rfl rfl (by kernel_rfl) (by kernel_rfl) (by kernel_rfl) (fun _ _ _ h => h) (Or.inl ⟨by rfl, ?_⟩) (by assumption) ?_
          · intro w hSw
            have s1 := slice_tags w gm (k * 4352 + 4096) (N * 4) 4 (by decide) (by have := HN64.out; omega) _ _ HP.out.2.2.1 HP.out.2.2.2
            go_simp
          simp only [Act.put, List.setIfInBounds_toArray, List.set_cons_zero, List.set_cons_succ]
          refine wpAnyH_ready (rs := [11]) (by kernel_rfl) (by simp) ?_
          refine AllReadyH.cons rfl (fun K hK => ?_) AllReadyH.nil
          go_simp
          refine Calls.mono (HB1.out _ hbw.drew) ?_
          rintro e w4 ⟨ba, bc, rfl, hou, hb4⟩
          have hbw4 : Below w.heap.size w w4 := hbw.trans ((((Below.refl _ _).drew).trans hb4).mono hbw.size)
          have hbz4 : Below wz.heap.size wz w4 := ((Below.refl _ _).drew).trans hb4
          go_wp2_with fail
          refine hK.out _ _ (hbw4) (fun hHeld => ?_)
          clear hK K
          try simp only [Act.put, List.setIfInBounds_toArray, List.set_cons_zero, List.set_cons_succ]
          refine wpAnyH_ready (rs := [21]) (by kernel_rfl) (by simp) ?_
          refine AllReadyH.cons rfl (fun K hK => ?_) AllReadyH.nil
          go_simp
          refine Calls.mono (HT1.out _ hbw4) ?_
          rintro e w5 ⟨ta, tc, rfl, hoi, hb5⟩
          have hbw5 : Below w.heap.size w w5 := hbw4.trans (hb5.mono hbw4.size)
          have hbz5 : Below wz.heap.size wz w5 := hbz4.trans (hb5.mono hbz4.size)
          go_wp2_with fail
          refine hK.out _ _ (hbw5) (fun hHeld => ?_)
          clear hK K
          try simp only [Act.put, List.setIfInBounds_toArray, List.set_cons_zero, List.set_cons_succ]
          refine take_to 22 (some 45) (v := ?_) rfl rfl (by kernel_rfl) (by kernel_rfl) (by kernel_rfl) (fun _ _ _ h => h) (Or.inl ⟨by rfl, ?_⟩) (by assumption) ?_
          rotate_left
          · intro w hSw
            (try dsimp only at hSw)
            go_simp
            with_reducible rfl
          simp only [Act.put, List.setIfInBounds_toArray, List.set_cons_zero, List.set_cons_succ]
          refine wpAnyH_ready (rs := [23]) (by kernel_rfl) (by simp) ?_
          refine AllReadyH.cons rfl (fun K hK => ?_) AllReadyH.nil
          go_simp
          refine hK.out _ _ (hbw5.alloc hbw5.size _) (fun hHeld => ?_)
          clear hK K
          try simp only [Act.put, List.setIfInBounds_toArray, List.set_cons_zero, List.set_cons_succ]
          obtain ⟨L, L1, L2, L3⟩ := hown.out
          have HL1 : Hid ((L.length + 1) * 56 ≤ 140737488355328 ∧ L.length + 1 ≤ maxLen) := by have h1 := HM2.out; rw [L1, List.length_append, pagesR_len]; have h2 := HN64.out; unfold maxLen; exact ⟨by omega, by omega⟩
          have hbz6 : Below wz.heap.size wz (w5.alloc (.cells #[.int .i64 (N : Int), .slice ba 64 bc, .slice ta 4 tc] 54)) := below_al hbz5 _
          have hou5 : OwnU w.heap.size (w5.alloc (.cells #[.int .i64 (N : Int), .slice ba 64 bc, .slice ta 4 tc] 54)) (.slice ba 64 bc) (bts p (N * 64) 64) := ⟨ownsRow_mono (ownsRow_below hou.1 (below_al hb5 _)) (by simpa using hbw.size), hou.2⟩
          have hoi5 : OwnR 3 1 encI w.heap.size (w5.alloc (.cells #[.int .i64 (N : Int), .slice ba 64 bc, .slice ta 4 tc] 54)) (.slice ta 4 tc) (tgs p (N * 4) 4) := (hoi.below ((Below.refl _ _).alloc (Nat.le_refl _) _)).mono hbw4.size
          have ho3 : Own3 w.heap.size (w5.alloc (.cells #[.int .i64 (N : Int), .slice ba 64 bc, .slice ta 4 tc] 54)) ((N : Int), (ba, 64, bc), (ta, 4, tc)) (pageAt p N) := ⟨rfl, hou5, hoi5, by show (tgs p (N * 4) 4).length ≤ _; rw [tgs_len]; decide⟩
          have hxb6 : OwnRow (w5.alloc (.cells #[.int .i64 (N : Int), .slice ba 64 bc, .slice ta 4 tc] 54)) wo.heap.size 50 [.int .i64 (xa : Int), .int .i64 (xb : Int), .int .i64 xr, .int .i64 xk, .bool xg, .bool xs] := hxb.out.below hbz6 hxlt
          refine wpAnyH_ready (rs := [24]) (by kernel_rfl) (by simp) ?_
          refine AllReadyH.cons rfl (fun K hK => ?_) AllReadyH.nil
          refine step_append_keeps shS (by rfl) _ _ 31 54 i0 _ 56 (by rfl) Try.underlying31 hi0 hz0 hz1 hz2 rfl w.heap.size (.slice pa pn pc) L (by rfl) wz L2 hbz6 hbw.size HL1.out.1 HL1.out.2 ((N : Int), (ba, 64, bc), (ta, 4, tc)) _ 1 (by rfl) (box3 w5 _ rfl ((N : Int), (ba, 64, bc), (ta, 4, tc)) _) ?_
          intro v6 w6 hown6 hb6 hk6
          obtain ⟨na, nn, rfl⟩ := hown6.form
          have hbw6 : Below w.heap.size w w6 := (below_al hbw5 _).trans hb6
          have hLn : (L ++ [((N : Int), (ba, 64, bc), (ta, 4, tc))]).length = L.length + 1 := by simp
          rw [hLn] at hown6 ⊢
          have hpg : OwnPg w.heap.size w6 (.slice na (L.length + 1) nn) (pagesL p (l.take j) ++ pagesR p ((xa : Int), (xb : Int), xr, xk, xg, xs) (N + 1 - xa)) := by rw [HNEXT.out]; exact ownPg_snoc L1 (fun i hi => (L3 i hi).below hbz6) ho3 hk6 hown6
          have hxb7 : OwnRow w6 wo.heap.size 50 [.int .i64 (xa : Int), .int .i64 (xb : Int), .int .i64 xr, .int .i64 xk, .bool xg, .bool xs] := hk6 _ _ _ _ hxb6 (by decide)
          have HPG : Hid _ := hpg
          have HXB : Hid _ := hxb7
          clear hpg hxb7 hxb6 ho3 hoi5 hou5 L1 L2 L3
          refine hK.out _ _ hbw6 (fun hHeld => ?_)
          clear hK K
          simp only [Act.put, List.getElem_toArray, List.getElem_cons_succ, List.getElem_cons_zero, List.setIfInBounds_toArray, List.set_cons_zero, List.set_cons_succ]
          refine take_to 25 (some 5) (v := ?_) rfl rfl (by kernel_rfl) (by kernel_rfl) (by kernel_rfl) (fun _ _ _ h => h) (Or.inl ⟨by rfl, ?_⟩) (by assumption) ?_
          rotate_left
          · intro w hSw
            (try dsimp only at hSw)
            go_simp
            with_reducible rfl
          simp only [Act.put, List.setIfInBounds_toArray, List.set_cons_zero, List.set_cons_succ]
          refine wpAnyH_done (by kernel_rfl) ?_ _
          refine NoPanic.normal ?_
          clear hLn hou hoi hb4 hb5 hbw4 hbz4 hbw5 hbz5 hbz6 hb6 hk6 hown6 hHeld HB1 HT1 HP c0 c1 c2 c3 c4 c5 hxlt hxb hown hk0 hk1 hk2 hk3 hk4 hk5 hdj
          obtain ⟨w9, hw9⟩ : ∃ w9, w9 = w6 := ⟨_, rfl⟩
          rw [← hw9] at HPG HXB hbw6 ⊢
          clear hw9
          generalize IntKind.i64.wrap (IntKind.i64.wrap ((N : Int) + 1) * 64) = z1
          generalize IntKind.i64.wrap (IntKind.i64.wrap ((N : Int) + 1) * 4) = z2
          generalize IntKind.i64.wrap ((N : Int) * 64) = z3
          generalize IntKind.i64.wrap ((N : Int) * 4) = z4
          generalize IntKind.i64.wrap ((N : Int) + 1) = z5
          generalize 4096 - N * 64 = z6
          generalize 256 - N * 4 = z7
          generalize L.length + 1 = z8 at *
          go_wp2
          exact ⟨⟨N + 1, _, _, _, by omega, by omega, rfl, by go_num, HPG.out, HXB.out, hbw6⟩, by simp [intOf]; omega⟩

        · obtain rfl : N = xb := by omega
          have HFIN : Hid (OwnPg w.heap.size wr (.slice pa pn pc) (pagesL p (l.take (j + 1)))) := by
            show OwnPg _ _ _ _
            rw [HNXT.out]
            rw [show ((N : Int) - (xa : Int)).toNat = N - xa by omega]
            exact hown.out
          clear HNXT HBY HTG HMX HIN HM2 hown
          go_wp2
          exact ⟨⟨j + 1, _, _, _, by omega, rfl, by go_num, HFIN.out, hbw⟩, by simp [intOf]; omega⟩
    · obtain rfl : j = m := by omega
      have HFIN : Hid (OwnPg w.heap.size wr (.slice oa on oc) (pagesL p l)) := by
        have := hown.out
        rw [List.take_of_length_le (by rw [← hm.out]; omega)] at this
        exact this
      clear HBY HTG HMX HIN hown
      go_wp2
      go_ret
      exact ⟨_, _, _, rfl, HFIN.out, hbel⟩

end Go.Proofs.Ytbiipnojhjhejaa

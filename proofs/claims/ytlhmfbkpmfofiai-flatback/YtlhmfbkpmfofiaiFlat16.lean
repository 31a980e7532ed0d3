/- The contract of flat.Run: things done, one behind the other, and all processes then. -/
import Derived.Test.YtlhmfbkpmfofiaiFlat15
import Derived.Test.YtlhmfbkpmfofiaiFlatFirst
namespace Go.Proofs.Ytlhmfbkpmfofiai
set_option maxRecDepth 100000
open Go.RowKit
set_option linter.unusedSimpArgs false
set_option linter.unusedVariables false

/-- What is done, as it stands in memory. -/
def encO (o : O12) : List Value := [.int .i64 o.kind, .int .i64 o.proc, .int .i64 o.page, .int .i64 o.count, .int .i64 o.rights, .int .i64 o.key, .bool o.tagged, .int .i64 o.draw, .int .i64 o.addr, .int .i64 o.size, .int .i64 o.value, .int .i64 o.tag]
def zO : O12 := ⟨0, 0, 0, 0, 0, 0, false, 0, 0, 0, 0, 0⟩

theorem shO : Shape O12 12 encO := ⟨fun _ => rfl, fun x v hv => by
  simp only [encO, List.mem_cons, List.not_mem_nil, or_false] at hv
  rcases hv with rfl | rfl | rfl | rfl | rfl | rfl | rfl | rfl | rfl | rfl | rfl | rfl <;> rfl, by decide⟩

theorem info_op : (Try.prog.info? 24).map (fun i => (i.size, i.bytes)) = some (12, 96) := by kernel_rfl

/-- An answer as it stands in memory. -/
def encA (a : An) : List Value := [.int .i64 a.1, .int .i64 a.2.1, .int .i64 a.2.2.1, .int .i64 a.2.2.2]
def zAn : An := (0, 0, 0, 0)

theorem shA : Shape An 4 encA := ⟨fun _ => rfl, fun x v hv => by
  simp only [encA, List.mem_cons, List.not_mem_nil, or_false] at hv
  rcases hv with rfl | rfl | rfl | rfl <;> rfl, by decide⟩

theorem info_ansv : (Try.prog.info? 40).map (fun i => (i.zero, i.size, i.bytes)) = some (some (.agg #[.int .i64 0, .int .i64 0, .int .i64 0, .int .i64 0]), 4, 32) := by kernel_rfl

/-- The twelve cells of an element, in a later world. -/
theorem cell12 {w wr : World} {b off : Nat} {L : List O12} (hc : ∀ j u, (flatL encO L)[j]? = some u → w.cell? ⟨b, off + j, none⟩ = some u) (hbel : Below w.heap.size w wr) (k : Nat) (hk : k < L.length) {kind proc page count rights key : Int} {tagged : Bool} {draw addr size value tag : Int} (hp : (O12.mk kind proc page count rights key tagged draw addr size value tag) = L.getD k zO) :
    (wr.cell? ⟨b, off + k * 12, none⟩ = some (.int .i64 kind) ∧ wr.cell? ⟨b, off + k * 12 + 1, none⟩ = some (.int .i64 proc) ∧ wr.cell? ⟨b, off + k * 12 + 2, none⟩ = some (.int .i64 page) ∧ wr.cell? ⟨b, off + k * 12 + 3, none⟩ = some (.int .i64 count) ∧
      wr.cell? ⟨b, off + k * 12 + 4, none⟩ = some (.int .i64 rights) ∧ wr.cell? ⟨b, off + k * 12 + 5, none⟩ = some (.int .i64 key)) ∧
    wr.cell? ⟨b, off + k * 12 + 6, none⟩ = some (.bool tagged) ∧ wr.cell? ⟨b, off + k * 12 + 7, none⟩ = some (.int .i64 draw) ∧ wr.cell? ⟨b, off + k * 12 + 8, none⟩ = some (.int .i64 addr) ∧ wr.cell? ⟨b, off + k * 12 + 9, none⟩ = some (.int .i64 size) ∧
      wr.cell? ⟨b, off + k * 12 + 10, none⟩ = some (.int .i64 value) ∧ wr.cell? ⟨b, off + k * 12 + 11, none⟩ = some (.int .i64 tag) := by
  have hcell := fun t u ht hu => recs_cell shO hc zO k t hk ht (u := u) hu
  rw [← hp] at hcell
  have go : ∀ {A : Addr} {v : Value}, w.cell? A = some v → wr.cell? A = some v := fun hc => (hbel.cell (cell_lt hc)).trans hc
  exact ⟨⟨go (hcell 0 _ (by decide) rfl), go (hcell 1 _ (by decide) rfl), go (hcell 2 _ (by decide) rfl), go (hcell 3 _ (by decide) rfl), go (hcell 4 _ (by decide) rfl), go (hcell 5 _ (by decide) rfl)⟩,
    go (hcell 6 _ (by decide) rfl), go (hcell 7 _ (by decide) rfl), go (hcell 8 _ (by decide) rfl), go (hcell 9 _ (by decide) rfl), go (hcell 10 _ (by decide) rfl), go (hcell 11 _ (by decide) rfl)⟩

theorem results_tmp_row {P : Program} {fn : Func} {p q : Tmp} {ty : TypeId} (h : fn.results = #[.tmp p, .cell q ty]) (tmps : Array Value) (w : World) (g : Nat) (t : TypeId) (cs : Array Value) (fr : Nat × Nat) (d : TypeDesc) (Y : Value)
    (hp : tmps.getD p undef = Y) (hq : tmps.getD q undef = .pointer (some ⟨g, 0, none⟩)) (hg : w.heap[g]? = some (.cells cs t fr))
    (hu : P.underlying ty = some d) (hd : (match d with | .struct _ | .array _ _ => true | _ => false) = true) (hi : (P.info? ty).map (·.size) = some cs.size) : (results fn tmps).run P w = .ok (.tuple #[Y, .agg cs]) w := by
  have hp' : tmps[p]?.getD undef = Y := by simpa using hp
  have hq' : tmps[q]?.getD undef = .pointer (some ⟨g, 0, none⟩) := by simpa using hq
  simp [results, h, hp', hq', asAddr, run_loadVar_row w g t ty cs fr d hg hu hd hi]

theorem WOK.others {base g : Nat} {S : W4} {b : Nat} {e : TypeId} (he : e ≠ 46) (hb : b ≠ g) : ∀ (vs : List Value) (o : Nat) (w : World) (xs : List Value), WOK base g w S → OwnRow w b e xs → o + vs.length ≤ xs.length → WOK base g (w.setCells b o vs) S
  | [], _, _, _, h, _, _ => h
  | v :: r, o, w, xs, h, hr, hl => WOK.others he hb r (o + 1) (w.setCell ⟨b, o, none⟩ v) (xs.set o v) (h.setOther hr he hb o v) (hr.set o v) (by simp at hl ⊢; omega)

/-- 'T{..}': what is laid together, given ahead; the parts as a list. -/
theorem wpList_built {P : Program} {ops : Array Oper} {rest : List Oper} {o : Oper} {a : Act} {w : World} {Q : Exit → Act → World → Prop} (hg : o.guard = none) (t : TypeId) (parts : Array (Nat × Operand)) (ho : o.op = .build t parts)
    (vs : List (Nat × Value)) (hvs : parts.toList.map (fun (i, x) => (i, a.eval x)) = vs) (cells : Array Value) (hc : P.built t vs = some cells)
    (h : wpList P ops Q rest (a.put o.dst (.agg cells)) w) : wpList P ops Q (o :: rest) a w :=
  wpList_build_is hg t parts ho vs (by rw [Array.toList_map]; exact hvs) cells hc h

/-- What holds ahead of the k-th: the processes, and what has been answered. -/
def RunK (base g s G0 n : Nat) (ZL : List Value) (l : List O12) (w w' : World) (k : Nat) : Prop :=
  WOK base g w' (run14 newW (l.take k)).1 ∧ (∃ xs, OwnRow w' s 40 xs ∧ xs.length = n * 4 ∧ xs.take (k * 4) = flatL encA (run14 newW (l.take k)).2) ∧ OwnRow w' G0 34 ZL ∧ Below w.heap.size w w'

theorem RunK.below {base g s G0 n : Nat} {ZL : List Value} {l : List O12} {w w1 w2 : World} {k : Nat} (h : RunK base g s G0 n ZL l w w1 k) (hb : Below w1.heap.size w1 w2) : RunK base g s G0 n ZL l w w2 k := by
  obtain ⟨h1, ⟨xs, h2, h3, h4⟩, h5, h6⟩ := h
  exact ⟨h1.below hb, ⟨xs, h2.below hb h2.lt, h3, h4⟩, h5.below hb h5.lt, h6.trans (hb.mono h6.size)⟩

theorem run14_take (l : List O12) (S : W4) (k : Nat) (hk : k < l.length) : run14 S (l.take (k + 1)) = ((do14 (run14 S (l.take k)).1 (l.getD k zO)).1, (run14 S (l.take k)).2 ++ [(do14 (run14 S (l.take k)).1 (l.getD k zO)).2]) := by
  rw [List.take_add_one, List.getElem?_eq_getElem hk, Option.toList_some, run14_snoc, List.getD_eq_getElem?_getD, List.getElem?_eq_getElem hk, Option.getD_some]

/-- One thing done, its answer laid into the list. -/
theorem RunK.next {base g s G0 n : Nat} {ZL : List Value} {l : List O12} {w w1 w2 : World} {k : Nat} (h : RunK base g s G0 n ZL l w w1 k) (hk : k < l.length) (hn : k < n) (h1 : WOK base g w2 (do14 (run14 newW (l.take k)).1 (l.getD k zO)).1) (hs : Spare g w1 w2)
    (hsg : s ≠ g) (hsG : s ≠ G0) (hGg : G0 ≠ g) (hws : w.heap.size ≤ s) (hwg : w.heap.size ≤ g) : RunK base g s G0 n ZL l w (w2.setCells s (k * 4) (encA (do14 (run14 newW (l.take k)).1 (l.getD k zO)).2)) (k + 1) := by
  obtain ⟨-, ⟨xs, h2, h3, h4⟩, h5, h6⟩ := h
  have hr := hs.row h2 hsg
  have hl : k * 4 + (encA (do14 (run14 newW (l.take k)).1 (l.getD k zO)).2).length ≤ xs.length := by rw [shA.len, h3]; omega
  rw [RunK, run14_take l newW k hk]
  refine ⟨WOK.others (e := 40) (by decide) hsg _ _ _ _ h1 hr hl, ⟨_, hr.setCells _ _ _ _ hl, by rw [spl_len hl]; exact h3, ?_⟩, (hs.row h5 hGg).other hsG _ _, below_setCells hws _ _ _ _ (h6.trans (hs.to_below h6.size hwg))⟩
  have e : (k + 1) * 4 = k * 4 + (encA (do14 (run14 newW (l.take k)).1 (l.getD k zO)).2).length := by rw [shA.len]; omega
  rw [e, spl_take_hi (by omega), h4]
  simp only [flatL, List.flatMap_append, List.flatMap_cons, List.flatMap_nil, List.append_nil]

set_option maxRecDepth 100000 in
set_option maxHeartbeats 3200000 in
theorem run14_any (v : Value) (l : List O12) (w : World) (h : IsRecs encO 2932031007400 w v l) (hwf : ∀ o ∈ l, bdI o.count ∧ bdI o.size) :
    Calls Try.prog 7 #[v] w fun e w' => ∃ a n c xs, e = .returned (.tuple #[.slice a n c, .agg xs.toArray]) ∧ OwnR 40 4 encA w.heap.size w' (.slice a n c) (run14 newW l).2 ∧ ShownTo w.heap.size w' (run14 newW l).1 4 xs ∧ Below w.heap.size w w' := by
  obtain ⟨P, Z, z1, z2, z3, z4⟩ := first_w
  have HZ : Hid (Try.prog.built 66 [(0, .bool true), (2, keysV true 0 false 0 false 0 false 0)] = some P ∧ Try.prog.built 68 [(0, .agg P)] = some Z ∧ Z.size = 17448 ∧ Z.all (·.oneCell') = true) := ⟨z1, z2, z3, first_one z3 z4⟩
  have HWF : Hid (∀ {base g : Nat} {w : World}, OwnRow w g 68 Z.toList → g < base → base ≤ w.heap.size → WOK base g w newW) := fun h1 h2 h3 => wok_first h1 z3 z4 h2 h3
  have HIS : Hid ((Try.prog.info? 68).map (·.size) = some Z.size) := by show _ = _; rw [z3]; kernel_rfl
  clear z1 z2 z3 z4
  obtain ⟨a, cap, rfl, h1, hl, hc'⟩ := h
  obtain ⟨n, hn⟩ : ∃ n, Hid (n = l.length) := ⟨_, rfl⟩
  rw [← hn.out] at hl hc' h1
  rw [← hn.out]
  obtain ⟨i0, hi0, hz0, hz1, hz2⟩ := info_parts info_ansv
  obtain ⟨Z0, hZ0⟩ : ∃ Z0, Z0 = Try.zeroCells68 := ⟨_, rfl⟩
  have hzv : ∀ w : World, (zeroValue 68).run Try.prog w = .ok (.agg Z0) w := fun w => by rw [hZ0]; exact Try.zeroValue68 w
  have hzs : Z0.size = 17448 := by rw [hZ0]; exact zero_w.1
  have hzn : ¬ Z0 = #[] := by rw [hZ0]; exact Try.zeroCells68_ne
  clear hZ0
  go_enter Try.func7, Try.ntmps7
  go_wp2_with (first
    | (go_at_call 17; refine (first_any _).mono ?_; rintro e w1 ⟨rfl, hb1⟩)
    | (refine wpList_built rfl 66 #[(0, .const (.bool true)), (2, .tmp 8)] rfl [(0, .bool true), (2, keysV true 0 false 0 false 0 false 0)] rfl P HZ.out.1 ?_)
    | (refine wpList_built rfl 68 #[(0, .tmp 9)] rfl [(0, .agg P)] rfl Z HZ.out.2.1 ?_)
    | (refine wpList_store_row rfl 68 (.tmp 4) (.tmp 10) rfl w1.heap.size Z rfl rfl 68 _ (heap_alloc_new w1 _) HIS.out (by rw [HZ.out.2.2.1]; exact hzs) HZ.out.2.2.2 ?_; rw [World.setRow_alloc_new])
    | (at_make; refine wpList_make_room _ rfl _ _ 26 rfl 40 i0 _ Try.underlying26 hi0 hz0 hz1 .i64 .i64 n n rfl rfl (Nat.le_refl _) (by rw [hz2]; omega) (by unfold maxLen; omega) ?_; intro w2 xs hrow hxs hb2 hs2))
  have hsz1 : w.heap.size + 1 ≤ w1.heap.size := by have := hb1.size; simp at this; omega
  have hr0 : OwnRow (w1.alloc (.cells Z 68)) w1.heap.size 68 Z.toList := by
    have := heap_alloc_new w1 (.cells Z 68)
    unfold OwnRow
    rw [Array.toArray_toList]
    exact this
  obtain ⟨base, hbase⟩ : ∃ b, b = w1.heap.size + 1 := ⟨_, rfl⟩
  have hk0 := (HWF.out (base := base) hr0 (by omega) (by rw [hbase]; simp)).below hb2
  obtain ⟨ZL, hZL⟩ : ∃ ZL : List Value, ZL = [.bool false, .slice none 0 0, .bool false, .int .i64 0, .bool false, .int .i64 0, .bool false, .int .i64 0, .bool false, .int .i64 0, .slice none 0 0, .bool false, .slice none 0 0, .bool false, .int .i64 0, .bool false, .int .i64 0, .bool false, .int .i64 0, .bool false, .int .i64 0, .slice none 0 0, .bool false, .slice none 0 0, .bool false, .int .i64 0, .bool false, .int .i64 0, .bool false, .int .i64 0, .bool false, .int .i64 0, .slice none 0 0, .bool false, .slice none 0 0, .bool false, .int .i64 0, .bool false, .int .i64 0, .bool false, .int .i64 0, .bool false, .int .i64 0, .slice none 0 0] := ⟨_, rfl⟩
  have hzr : OwnRow w1 w.heap.size 34 ZL := by rw [hZL]; exact own_one hb1
  have hzl : Hid (ZL.toArray.size = 44) := by rw [hZL]; rfl
  have hb12 : Below w1.heap.size w1 w2 := ((Below.refl _ _).alloc (Nat.le_refl _) _).trans (hb2.mono (by simp))
  have hbw2 : Below w.heap.size w w2 := (((Below.refl _ _).alloc (Nat.le_refl _) _).trans (hb1.mono (by simp))).trans (hb12.mono (by omega))
  obtain ⟨g, hg⟩ : ∃ g, g = w1.heap.size := ⟨_, rfl⟩
  have HR0 : Hid (RunK base g (g + 1) w.heap.size n ZL l w w2 0) := ⟨by rw [hg]; exact hk0, ⟨xs, by rw [hg]; simpa using hrow, hxs, by simp [flatL, run14]⟩, hzr.below hb12 hzr.lt, hbw2⟩
  have hgw : w.heap.size < g := by omega
  have HI : Hid (∀ k, Inv (run14 newW (l.take k)).1) := fun k => inv_run inv_new
  rw [← hg]
  clear hk0 hzr hb12 hbw2 hrow hxs hb2 hs2 hr0 hb1 hsz1 HWF hZL hzv hzs hzn HIS HZ hbase hg
  go_loopw [16] (fun i wr => ∃ k : Nat, k ≤ n ∧ i = .int .i64 k ∧ Hid (RunK base g (g + 1) w.heap.size n ZL l w wr k)) (fun i _ => n - (intOf i).toNat)
  case atStart => exact ⟨0, Nat.zero_le _, rfl, HR0.out⟩
  clear HR0
  case round =>
    obtain ⟨k, hkn, rfl, hrun⟩ := hrel
    by_cases hlt : k < n
    · obtain ⟨b, off, rfl, hc⟩ := hc' (by omega)
      have hkl : k < l.length := by rw [← hn.out]; exact hlt
      have hbel : Below w.heap.size w wr := hrun.out.2.2.2
      have hgr : g < wr.heap.size := hrun.out.1.glt
      have hsr : g + 1 < wr.heap.size := by obtain ⟨xs, hx, -⟩ := hrun.out.2.1; exact hx.lt
      have hbd : bdI (l.getD k zO).count ∧ bdI (l.getD k zO).size := hwf _ (by rw [List.getD_eq_getElem?_getD, List.getElem?_eq_getElem hkl, Option.getD_some]; exact List.getElem_mem hkl)
      obtain ⟨D, hD⟩ : ∃ D, D = do14 (run14 newW (l.take k)).1 (l.getD k zO) := ⟨_, rfl⟩
      have HEND : Hid (∀ w2, WOK base g w2 D.1 → Spare g wr w2 → RunK base g (g + 1) w.heap.size n ZL l w (w2.setCells (g + 1) (k * 4) (encA D.2)) (k + 1)) := fun w2 h1 h2 => by
        rw [hD] at h1 ⊢
        exact hrun.out.next hkl hlt h1 h2 (by omega) (by omega) (by omega) (by omega) (by omega)
      have HDO : Hid (∀ w1, Below wr.heap.size wr w1 → Calls Try.prog 18 #[.pointer (some ⟨g, 0, none⟩), opV (l.getD k zO)] w1 fun e w' => e = .returned (ansV D.2) ∧ WOK base g w' D.1 ∧ Spare g w1 w') := fun w1 hb => by
        rw [hD]
        exact do14_any base g _ _ hbd.1 hbd.2 w1 (hrun.out.1.below hb) (HI.out k)
      clear hD hbd
      obtain ⟨SA, a1, a2, a3, a4⟩ := D
      obtain ⟨O, hO⟩ : ∃ O, O = l.getD k zO := ⟨_, rfl⟩
      rw [← hO] at HDO
      obtain ⟨kind, proc, page, count, rights, key, tagged, draw, addr, size, value, tag⟩ := O
      obtain ⟨⟨c0, c1, c2, c3, c4, c5⟩, c6, c7, c8, c9, c10, c11⟩ := cell12 hc hbel k hkl hO
      clear hO hkl hwf
      have HNX : Hid (∀ w', Spare g (wr.alloc (.cells #[.int .i64 kind, .int .i64 proc, .int .i64 page, .int .i64 count, .int .i64 rights, .int .i64 key, .bool tagged, .int .i64 draw, .int .i64 addr, .int .i64 size, .int .i64 value, .int .i64 tag] 24)) w' → w'.cell? ⟨wr.heap.size, 0, none⟩ = some (.int .i64 kind) ∧ w'.cell? ⟨wr.heap.size, 1, none⟩ = some (.int .i64 proc) ∧ w'.cell? ⟨wr.heap.size, 2, none⟩ = some (.int .i64 page) ∧ w'.cell? ⟨wr.heap.size, 3, none⟩ = some (.int .i64 count) ∧ w'.cell? ⟨wr.heap.size, 4, none⟩ = some (.int .i64 rights) ∧ w'.cell? ⟨wr.heap.size, 5, none⟩ = some (.int .i64 key) ∧ w'.cell? ⟨wr.heap.size, 6, none⟩ = some (.bool tagged) ∧ w'.cell? ⟨wr.heap.size, 7, none⟩ = some (.int .i64 draw) ∧ w'.cell? ⟨wr.heap.size, 8, none⟩ = some (.int .i64 addr) ∧ w'.cell? ⟨wr.heap.size, 9, none⟩ = some (.int .i64 size) ∧ w'.cell? ⟨wr.heap.size, 10, none⟩ = some (.int .i64 value) ∧ w'.cell? ⟨wr.heap.size, 11, none⟩ = some (.int .i64 tag)) := fun w' hs => by
        have h := hs.row (box12 (Below.refl _ _)) (by show wr.heap.size ≠ g; omega)
        obtain ⟨⟨x0, x1, x2, x3, x4, x5⟩, x6, x7, x8, x9, x10, x11⟩ := h.twelve
        exact ⟨x0, x1, x2, x3, x4, x5, x6, x7, x8, x9, x10, x11⟩
      have HBX : Hid (Below wr.heap.size wr (wr.alloc (.cells #[.int .i64 kind, .int .i64 proc, .int .i64 page, .int .i64 count, .int .i64 rights, .int .i64 key, .bool tagged, .int .i64 draw, .int .i64 addr, .int .i64 size, .int .i64 value, .int .i64 tag] 24))) := (Below.refl _ _).alloc (Nat.le_refl _) _
      have HTH : Hid (∀ w2, Spare g wr w2 → w2.there (g + 1) (k * 4) 4) := fun w2 hs j hj => by
        obtain ⟨xs, h2, h3, -⟩ := hrun.out.2.1
        have h2' := hs.row h2 (by omega)
        exact ⟨by rw [h2'.cell, List.getElem?_eq_getElem (by rw [h3]; omega)]; rfl, h2'.free _⟩
      clear hrun
      go_wp2_with fail
      refine (HDO.out _ HBX.out).mono ?_
      rintro e w3 ⟨rfl, hw3, hsp3⟩
      have hsr3 : Spare g wr w3 := (Spare.of_below HBX.out).trans hsp3
      have hth : Hid (w3.there (g + 1) (k * 4) 4) := HTH.out _ hsr3
      have HE : Hid (RunK base g (g + 1) w.heap.size n ZL l w (w3.setCells (g + 1) (k * 4) [.int .i64 a1, .int .i64 a2, .int .i64 a3, .int .i64 a4]) (k + 1)) := HEND.out _ hw3 hsr3
      have hone : Hid ((#[.int .i64 a1, .int .i64 a2, .int .i64 a3, .int .i64 a4] : Array Value).all (·.oneCell') = true) := all_oneCell_toArray (cs := [.int .i64 a1, .int .i64 a2, .int .i64 a3, .int .i64 a4]) (by intro v hv; simp only [List.mem_cons, List.not_mem_nil, or_false] at hv; rcases hv with rfl | rfl | rfl | rfl <;> rfl)
      clear HNX HBX HTH HEND HDO c0 c1 c2 c3 c4 c5 c6 c7 c8 c9 c10 c11 hw3 hsp3 hsr3
      go_wp2_with (first
        | (refine wpList_store_mid rfl 40 (.tmp 25) (.tmp 24) rfl (g + 1) (k * 4) #[.int .i64 a1, .int .i64 a2, .int .i64 a3, .int .i64 a4] rfl rfl hth.out info_ans hone.out ?_; generalize w3.setCells (g + 1) (k * 4) (#[.int .i64 a1, .int .i64 a2, .int .i64 a3, .int .i64 a4] : Array Value).toList = w4 at HE ⊢))
      go_roundw
      case rel => exact ⟨k + 1, by omega, by go_num, HE.out⟩
      case measure => simp [intOf]; omega
    · obtain rfl : k = n := by omega
      obtain ⟨hwk, ⟨xs, hx, hxl, hxt⟩, hz, hbel⟩ := hrun.out
      have hall : l.take k = l := by rw [hn.out]; exact List.take_length
      rw [hall] at hwk hxt
      have HIN := HI.out k
      rw [hall] at HIN
      have HSH : Hid (Calls Try.prog 19 #[.pointer (some ⟨g, 0, none⟩)] wr fun e w' => ∃ ys, e = .returned (.agg ys.toArray) ∧ ShownTo wr.heap.size w' (run14 newW l).1 4 ys ∧ Below wr.heap.size wr w') := shown_any base g _ wr hwk HIN
      have hgr : g + 1 < wr.heap.size := hx.lt
      have HOW : Hid (OwnR 40 4 encA w.heap.size wr (.slice (some ⟨g + 1, 0, none⟩) k k) (run14 newW l).2) := by
        have := ownR_of_row (cap := k) (l := (run14 newW l).2) shA (show w.heap.size ≤ g + 1 by omega) hx (by rw [run14_len, ← hn.out]; exact Nat.le_refl _) (by unfold maxLen; omega) hxl (by rw [run14_len, ← hn.out]; exact hxt)
        rw [run14_len, ← hn.out] at this
        exact this
      have HFIN : Hid (∀ w5 ys, Below wr.heap.size wr w5 → ShownTo wr.heap.size w5 (run14 newW l).1 4 ys → w5.heap[w.heap.size]? = some (.cells ZL.toArray 34 (0, 0)) ∧
          OwnR 40 4 encA w.heap.size (w5.setRow w.heap.size ys.toArray) (.slice (some ⟨g + 1, 0, none⟩) k k) (run14 newW l).2 ∧ ShownTo w.heap.size (w5.setRow w.heap.size ys.toArray) (run14 newW l).1 4 ys ∧ Below w.heap.size w (w5.setRow w.heap.size ys.toArray)) := fun w5 ys hb hs => by
        have hzw : OwnRow w5 w.heap.size 34 ZL := hz.below hb (by omega)
        have hkp : Keeps 34 w5 (w5.setRow w.heap.size ys.toArray) := fun h cc e' fr hh hne => by
          rw [setRow_other w5 w.heap.size h ys.toArray ?_]
          · exact hh
          · intro hbb
            subst hbb
            rw [hzw] at hh
            simp only [Option.some.injEq, Obj.cells.injEq] at hh
            exact hne hh.2.1.symm
        refine ⟨hzw, ownsRow_keeps (HOW.out.below hb) hkp (by decide), ⟨hs.1, hs.2.1, fun i hi => ?_⟩, below_setRow (hbel.trans (hb.mono (by omega))) (Nat.le_refl _) _⟩
        obtain ⟨a, n, c, a', n', c', hss, hj⟩ := hs.2.2 i hi
        refine ⟨a, n, c, a', n', c', (Seems.keeps ⟨hss.regs.mono hbel.size, by obtain ⟨L, l1, l2, l3⟩ := hss.pages; exact ⟨L, l1, l2.mono hbel.size, fun q hq => (l3 q hq).mono hbel.size⟩⟩ hkp), hj⟩
      have HYS : Hid (∀ (w5 : World) ys, ShownTo wr.heap.size w5 (run14 newW l).1 4 ys → (Try.prog.info? 34).map (·.size) = some ys.toArray.size ∧ ZL.toArray.size = ys.toArray.size ∧ ys.toArray.all (·.oneCell') = true) := fun w5 ys hs => by
        have e : ys.toArray.size = 44 := by simpa using hs.1
        exact ⟨by rw [info_procs, e], by rw [hzl.out, e], all_oneCell_toArray hs.2.1⟩
      clear hrun hwk HIN HI hx hxl hxt hz hbel HOW hc' hall
      go_wp2_with (first
        | (go_at_call 19; refine (HSH.out).mono ?_; rintro e w5 ⟨ys, rfl, hs5, hb5⟩; have HF : Hid _ := HFIN.out w5 ys hb5 hs5; have HY : Hid _ := HYS.out w5 ys hs5; obtain ⟨Y, hY⟩ : ∃ Y, Hid (Y = ys.toArray) := ⟨_, rfl⟩; rw [← hY.out] at HF HY ⊢; clear hs5 hb5)
        | (refine wpList_store_row rfl 34 (.tmp 3) _ rfl w.heap.size Y rfl rfl 34 _ HF.out.1 HY.out.1 HY.out.2.1 HY.out.2.2 ?_))
      exact bodyPost_ret (v := .tuple #[.slice (some ⟨g + 1, 0, none⟩) k k, .agg Y]) (results_tmp_row Try.results7 _ _ w.heap.size 34 Y (0, 0) _ _ rfl rfl (setRow_heap _ _ _ _ _ _ HF.out.1) Try.underlying34 rfl HY.out.1) rfl ⟨_, _, _, ys, by rw [hY.out], HF.out.2.1, HF.out.2.2.1, HF.out.2.2.2⟩

end Go.Proofs.Ytlhmfbkpmfofiai

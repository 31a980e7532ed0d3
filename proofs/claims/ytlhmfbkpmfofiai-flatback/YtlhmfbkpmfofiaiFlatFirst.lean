/- The first world: its cells. -/
import Derived.Test.YtlhmfbkpmfofiaiFlat15
namespace Go.Proofs.Ytlhmfbkpmfofiai
set_option maxRecDepth 100000
open Go.RowKit
set_option linter.unusedSimpArgs false
set_option linter.unusedVariables false

theorem fold_spl (off : Nat) : ∀ (vs : List Value) (j : Nat) (cs : Array Value), off + j + vs.length ≤ cs.size →
    ((vs.zipIdx j).foldl (fun (cs : Array Value) (x : Value × Nat) => cs.setIfInBounds (off + x.2) x.1) cs).toList = spl cs.toList (off + j) vs
  | [], j, cs, h => by simp [spl]
  | v :: r, j, cs, h => by
    simp only [List.zipIdx_cons, List.foldl_cons]
    rw [fold_spl off r (j + 1) _ (by rw [Array.size_setIfInBounds]; simp at h ⊢; omega), Array.toList_setIfInBounds]
    rw [show off + (j + 1) = off + j + 1 by omega]
    exact spl_cons _ _ _ _ (by simp at h ⊢; omega)

theorem fill_one {place : Nat → Option (Nat × Nat)} {cells : Array Value} {i off size : Nat} {v : Value} {rest : List (Nat × Value)} (hp : place i = some (off, size)) (hs : v.cells.size = size) (hl : off + size ≤ cells.size) :
    ∃ c2 : Array Value, c2.toList = spl cells.toList off v.cells.toList ∧ c2.size = cells.size ∧ Instr.fill place cells ((i, v) :: rest) = Instr.fill place c2 rest := by
  refine ⟨v.cells.zipIdx.foldl (fun cs (c, j) => cs.setIfInBounds (off + j) c) cells, ?_, ?_, ?_⟩
  · have := fold_spl off v.cells.toList 0 cells (by simp; omega)
    rw [Nat.add_zero] at this
    rw [← this, ← Array.foldl_toList, Array.toList_zipIdx]
  · have := fold_spl off v.cells.toList 0 cells (by simp; omega)
    rw [Nat.add_zero] at this
    have h2 : (v.cells.zipIdx.foldl (fun cs (c, j) => cs.setIfInBounds (off + j) c) cells).toList = spl cells.toList off v.cells.toList := by rw [← this, ← Array.foldl_toList, Array.toList_zipIdx]
    have h3 := congrArg List.length h2
    rw [spl_len (by simp; omega)] at h3
    simpa using h3
  · rw [Instr.fill, hp]
    simp only
    rw [if_neg (by rw [Bool.or_eq_true, decide_eq_true_eq, decide_eq_true_eq]; omega)]

theorem zero_info_p : (Try.prog.info? 66).map (fun i => (i.zero, i.size)) = some (some (.agg Try.zeroCells66), 4362) := by kernel_rfl
theorem zero_info_w : (Try.prog.info? 68).map (fun i => i.zero) = some (some (.agg Try.zeroCells68)) := by kernel_rfl
theorem zero_w : Try.zeroCells68.size = 17448 ∧ ((chkP Try.zeroCells68.toList).bind fun a => (chkP a).bind fun a => (chkP a).bind fun a => chkP a) = some [] := ⟨by kernel_rfl, by kernel_rfl⟩


theorem built_struct {P : Program} {t : TypeId} {it : TypeInfo} {fs : Array Field} {z : Value} {places : List (Nat × Nat)} (h1 : P.info? t = some it) (h2 : P.underlying t = some (.struct fs)) (h3 : it.zero = some z)
    (h4 : fs.toList.mapM (fun f => (P.info? f.type).map fun i => (f.offset, i.size)) = some places) (parts : List (Nat × Value)) : P.built t parts = Instr.fill (places.toArray[·]?) z.cells parts := by
  unfold Program.built
  rw [h1, h2]
  simp only [h3, h4]

theorem built_array {P : Program} {t e : TypeId} {n : Nat} {it ie : TypeInfo} {z : Value} (h1 : P.info? t = some it) (h2 : P.underlying t = some (.array n e)) (h3 : it.zero = some z)
    (h4 : P.info? e = some ie) (parts : List (Nat × Value)) : P.built t parts = Instr.fill (fun i => some (i * ie.size, ie.size)) z.cells parts := by
  unfold Program.built
  rw [h1, h2]
  simp only [h3, h4]

def isT1 : Value → Bool
  | .bool true => true
  | _ => false
theorem t1_eq {v : Value} (h : isT1 v = true) : v = .bool true := by
  unfold isT1 at h
  split at h
  · rfl
  · cases h

/-- The first process at the head of the list, and the rest. -/
def chkF (l : List Value) : Option (List Value) :=
  (chk isT1 1 l).bind fun a => (chk isN0 1 a).bind fun a => (chk isT1 1 a).bind fun a => (chk isI0 1 a).bind fun a => (chk isF0 1 a).bind fun a => (chk isI0 1 a).bind fun a =>
    (chk isF0 1 a).bind fun a => (chk isI0 1 a).bind fun a => (chk isF0 1 a).bind fun a => (chk isI0 1 a).bind fun a => (chk isU0 4096 a).bind fun a => chk isI0 256 a

def chkW (l : List Value) : Option (List Value) := (chkF l).bind fun a => (chkP a).bind fun a => (chkP a).bind fun a => chkP a

noncomputable def firstL : List Value := spl (spl Try.zeroCells66.toList 0 [.bool true]) 2 [.bool true, .int .i64 0, .bool false, .int .i64 0, .bool false, .int .i64 0, .bool false, .int .i64 0]
theorem first_l : chkW (spl Try.zeroCells68.toList 0 firstL) = some [] := by kernel_rfl

theorem places_p : ∃ fs, Try.prog.underlying 66 = some (.struct fs) ∧ fs.toList.mapM (fun f => (Try.prog.info? f.type).map fun i => (f.offset, i.size)) = some [(0, 1), (1, 1), (2, 8), (10, 4096), (4106, 256)] := ⟨_, Try.underlying66, by kernel_rfl⟩

/-- The first world's cells. -/
theorem first_w : ∃ P Z : Array Value, Try.prog.built 66 [(0, .bool true), (2, keysV true 0 false 0 false 0 false 0)] = some P ∧ Try.prog.built 68 [(0, .agg P)] = some Z ∧ Z.size = 17448 ∧ chkW Z.toList = some [] := by
  obtain ⟨fs, u1, u2⟩ := places_p
  obtain ⟨ip, hip, z1, z2⟩ : ∃ ip, Try.prog.info? 66 = some ip ∧ ip.zero = some (.agg Try.zeroCells66) ∧ ip.size = 4362 := by
    have := zero_info_p
    cases hq : Try.prog.info? 66 with
    | none => rw [hq] at this; cases this
    | some ip => rw [hq] at this; simp only [Option.map_some, Option.some.injEq, Prod.mk.injEq] at this; exact ⟨ip, rfl, this⟩
  obtain ⟨iw, hiw, y1⟩ : ∃ ip, Try.prog.info? 68 = some ip ∧ ip.zero = some (.agg Try.zeroCells68) := by
    have := zero_info_w
    cases hq : Try.prog.info? 68 with
    | none => rw [hq] at this; cases this
    | some ip => rw [hq] at this; simp only [Option.map_some, Option.some.injEq] at this; exact ⟨ip, rfl, this⟩
  have hb := built_struct hip u1 z1 u2 [(0, .bool true), (2, keysV true 0 false 0 false 0 false 0)]
  obtain ⟨hzs, -⟩ := zero_p
  obtain ⟨hws, -⟩ := zero_w
  have hzc : (Value.agg Try.zeroCells66).cells = Try.zeroCells66 := rfl
  have hwc : (Value.agg Try.zeroCells68).cells = Try.zeroCells68 := rfl
  rw [hzc] at hb
  obtain ⟨c1, g1, g2, g3⟩ := fill_one (place := fun i => ([(0, 1), (1, 1), (2, 8), (10, 4096), (4106, 256)] : List (Nat × Nat)).toArray[i]?) (cells := Try.zeroCells66) (i := 0) (off := 0) (size := 1) (v := .bool true) (rest := [(2, keysV true 0 false 0 false 0 false 0)]) rfl rfl (by omega)
  obtain ⟨c2, k1, k2, k3⟩ := fill_one (place := fun i => ([(0, 1), (1, 1), (2, 8), (10, 4096), (4106, 256)] : List (Nat × Nat)).toArray[i]?) (cells := c1) (i := 2) (off := 2) (size := 8) (v := keysV true 0 false 0 false 0 false 0) (rest := []) rfl rfl (by omega)
  rw [g3, k3, Instr.fill] at hb
  have hw := built_array hiw Try.underlying68 y1 hip [(0, .agg c2)]
  rw [hwc, z2] at hw
  have hcs : (Value.agg c2).cells = c2 := rfl
  obtain ⟨c3, j1, j2, j3⟩ := fill_one (place := fun i => some (i * 4362, 4362)) (cells := Try.zeroCells68) (i := 0) (off := 0) (size := 4362) (v := .agg c2) (rest := []) rfl (by rw [hcs, k2, g2, hzs]) (by omega)
  rw [j3, Instr.fill] at hw
  refine ⟨c2, c3, hb, hw, by rw [j2, hws], ?_⟩
  have e2 : c2.toList = firstL := by rw [k1, g1]; rfl
  rw [j1, hcs, e2]
  exact first_l

theorem chkF_pc {l r : List Value} (h : chkF l = some r) : PC l 0 firstP (.slice none 0 0) ∧ (∀ i, l[4362 + i]? = r[i]?) ∧ ∀ i, i < 4362 → ∃ v, l[i]? = some v ∧ v.oneCell' = true := by
  unfold chkF at h
  simp only [Option.bind_eq_some_iff] at h
  obtain ⟨l1, h1, l2, h2, l3, h3, l4, h4, l5, h5, l6, h6, l7, h7, l8, h8, l9, h9, l10, h10, l11, h11, h12⟩ := h
  obtain ⟨g1, n1⟩ := chk_get h1
  obtain ⟨g2, n2⟩ := chk_get h2
  obtain ⟨g3, n3⟩ := chk_get h3
  obtain ⟨g4, n4⟩ := chk_get h4
  obtain ⟨g5, n5⟩ := chk_get h5
  obtain ⟨g6, n6⟩ := chk_get h6
  obtain ⟨g7, n7⟩ := chk_get h7
  obtain ⟨g8, n8⟩ := chk_get h8
  obtain ⟨g9, n9⟩ := chk_get h9
  obtain ⟨g10, n10⟩ := chk_get h10
  obtain ⟨g11, n11⟩ := chk_get h11
  obtain ⟨g12, n12⟩ := chk_get h12
  have m2 : ∀ i, l[2 + i]? = l2[i]? := fun i => by rw [show 2 + i = 1 + (1 + i) by omega, n1, n2]
  have m3 : ∀ i, l[3 + i]? = l3[i]? := fun i => by rw [show 3 + i = 2 + (1 + i) by omega, m2, n3]
  have m4 : ∀ i, l[4 + i]? = l4[i]? := fun i => by rw [show 4 + i = 3 + (1 + i) by omega, m3, n4]
  have m5 : ∀ i, l[5 + i]? = l5[i]? := fun i => by rw [show 5 + i = 4 + (1 + i) by omega, m4, n5]
  have m6 : ∀ i, l[6 + i]? = l6[i]? := fun i => by rw [show 6 + i = 5 + (1 + i) by omega, m5, n6]
  have m7 : ∀ i, l[7 + i]? = l7[i]? := fun i => by rw [show 7 + i = 6 + (1 + i) by omega, m6, n7]
  have m8 : ∀ i, l[8 + i]? = l8[i]? := fun i => by rw [show 8 + i = 7 + (1 + i) by omega, m7, n8]
  have m9 : ∀ i, l[9 + i]? = l9[i]? := fun i => by rw [show 9 + i = 8 + (1 + i) by omega, m8, n9]
  have m10 : ∀ i, l[10 + i]? = l10[i]? := fun i => by rw [show 10 + i = 9 + (1 + i) by omega, m9, n10]
  have m11 : ∀ i, l[4106 + i]? = l11[i]? := fun i => by rw [show 4106 + i = 10 + (4096 + i) by omega, m10, n11]
  have m12 : ∀ i, l[4362 + i]? = r[i]? := fun i => by rw [show 4362 + i = 4106 + (256 + i) by omega, m11, n12]
  have c0 : l[0]? = some (.bool true) := by obtain ⟨v, hv, hp⟩ := g1 0 (by decide); rw [hv, t1_eq hp]
  have c1 : l[1]? = some (.slice none 0 0) := by obtain ⟨v, hv, hp⟩ := g2 0 (by decide); have := n1 0; rw [this, hv, n0_eq hp]
  have c2 : l[2]? = some (.bool true) := by obtain ⟨v, hv, hp⟩ := g3 0 (by decide); have := m2 0; rw [this, hv, t1_eq hp]
  have c3 : l[3]? = some (.int .i64 0) := by obtain ⟨v, hv, hp⟩ := g4 0 (by decide); have := m3 0; rw [this, hv, i0_eq hp]
  have c4 : l[4]? = some (.bool false) := by obtain ⟨v, hv, hp⟩ := g5 0 (by decide); have := m4 0; rw [this, hv, f0_eq hp]
  have c5 : l[5]? = some (.int .i64 0) := by obtain ⟨v, hv, hp⟩ := g6 0 (by decide); have := m5 0; rw [this, hv, i0_eq hp]
  have c6 : l[6]? = some (.bool false) := by obtain ⟨v, hv, hp⟩ := g7 0 (by decide); have := m6 0; rw [this, hv, f0_eq hp]
  have c7 : l[7]? = some (.int .i64 0) := by obtain ⟨v, hv, hp⟩ := g8 0 (by decide); have := m7 0; rw [this, hv, i0_eq hp]
  have c8 : l[8]? = some (.bool false) := by obtain ⟨v, hv, hp⟩ := g9 0 (by decide); have := m8 0; rw [this, hv, f0_eq hp]
  have c9 : l[9]? = some (.int .i64 0) := by obtain ⟨v, hv, hp⟩ := g10 0 (by decide); have := m9 0; rw [this, hv, i0_eq hp]
  have cb : ∀ a, a < 4096 → l[10 + a]? = some (.int .u8 0) := fun a ha => by obtain ⟨v, hv, hp⟩ := g11 a ha; rw [m10, hv, u0_eq hp]
  have ct : ∀ a, a < 256 → l[4106 + a]? = some (.int .i64 0) := fun a ha => by obtain ⟨v, hv, hp⟩ := g12 a ha; rw [m11, hv, i0_eq hp]
  have hpc : PC l 0 firstP (.slice none 0 0) := by
    refine ⟨c0, c1, fun i hi => ?_, fun a ha => by rw [Nat.zero_add]; exact cb a ha, fun a ha => by rw [Nat.zero_add]; exact ct a ha⟩
    rw [Nat.zero_add]
    match i, hi with
    | 0, _ => exact c2
    | 1, _ => exact c3
    | 2, _ => exact c4
    | 3, _ => exact c5
    | 4, _ => exact c6
    | 5, _ => exact c7
    | 6, _ => exact c8
    | 7, _ => exact c9
  refine ⟨hpc, m12, fun i hi => ?_⟩
  have hsome : ∃ v, l[i]? = some v := by
    by_cases h2 : i < 10
    · match i, h2 with
      | 0, _ => exact ⟨_, c0⟩
      | 1, _ => exact ⟨_, c1⟩
      | 2, _ => exact ⟨_, c2⟩
      | 3, _ => exact ⟨_, c3⟩
      | 4, _ => exact ⟨_, c4⟩
      | 5, _ => exact ⟨_, c5⟩
      | 6, _ => exact ⟨_, c6⟩
      | 7, _ => exact ⟨_, c7⟩
      | 8, _ => exact ⟨_, c8⟩
      | 9, _ => exact ⟨_, c9⟩
    · by_cases h3 : i < 4106
      · have := cb (i - 10) (by omega)
        rw [show 10 + (i - 10) = i by omega] at this
        exact ⟨_, this⟩
      · have := ct (i - 4106) (by omega)
        rw [show 4106 + (i - 4106) = i by omega] at this
        exact ⟨_, this⟩
  obtain ⟨v, hv⟩ := hsome
  exact ⟨v, hv, hpc.one rfl hi (by rw [Nat.zero_add]; exact hv)⟩


theorem chkW_pc {l : List Value} (h : chkW l = some []) : PC l 0 firstP (.slice none 0 0) ∧ (∀ k, 1 ≤ k → k < 4 → PC l (k * 4362) noP (.slice none 0 0)) ∧ ∀ i, i < 17448 → ∃ v, l[i]? = some v ∧ v.oneCell' = true := by
  unfold chkW at h
  simp only [Option.bind_eq_some_iff] at h
  obtain ⟨l1, h1, l2, h2, l3, h3, h4⟩ := h
  obtain ⟨p1, n1, o1⟩ := chkF_pc h1
  obtain ⟨p2, n2, o2⟩ := chkP_pc h2
  obtain ⟨p3, n3, o3⟩ := chkP_pc h3
  obtain ⟨p4, n4, o4⟩ := chkP_pc h4
  have m2 : ∀ i, l[8724 + i]? = l2[i]? := fun i => by rw [show 8724 + i = 4362 + (4362 + i) by omega, n1, n2]
  have m3 : ∀ i, l[13086 + i]? = l3[i]? := fun i => by rw [show 13086 + i = 8724 + (4362 + i) by omega, m2, n3]
  refine ⟨p1, fun k h1 h4 => ?_, fun i hi => ?_⟩
  · match k, h1, h4 with
    | 1, _, _ => exact p2.move (fun j hj => by rw [Nat.zero_add, Nat.one_mul]; exact n1 j)
    | 2, _, _ => exact p3.move (fun j hj => by rw [Nat.zero_add]; exact m2 j)
    | 3, _, _ => exact p4.move (fun j hj => by rw [Nat.zero_add]; exact m3 j)
  · by_cases k1 : i < 4362
    · exact o1 i k1
    · by_cases k2 : i < 8724
      · obtain ⟨v, hv, hp⟩ := o2 (i - 4362) (by omega)
        have := n1 (i - 4362)
        rw [show 4362 + (i - 4362) = i by omega] at this
        exact ⟨v, this.trans hv, hp⟩
      · by_cases k3 : i < 13086
        · obtain ⟨v, hv, hp⟩ := o3 (i - 8724) (by omega)
          have := m2 (i - 8724)
          rw [show 8724 + (i - 8724) = i by omega] at this
          exact ⟨v, this.trans hv, hp⟩
        · obtain ⟨v, hv, hp⟩ := o4 (i - 13086) (by omega)
          have := m3 (i - 13086)
          rw [show 13086 + (i - 13086) = i by omega] at this
          exact ⟨v, this.trans hv, hp⟩

theorem first_one {Z : Array Value} (hz : Z.size = 17448) (hc : chkW Z.toList = some []) : Z.all (·.oneCell') = true := by
  obtain ⟨p1, p2, p3⟩ := chkW_pc hc
  refine Array.all_eq_true_iff_forall_mem.2 (fun v hv => ?_)
  obtain ⟨j, hj, he⟩ := List.getElem_of_mem (show v ∈ Z.toList by simpa using hv)
  obtain ⟨u, hu, h1⟩ := p3 j (by rw [← hz]; simpa using hj)
  rw [List.getElem?_eq_getElem hj, he] at hu
  cases hu
  exact h1

/-- The first world. -/
theorem wok_first {base g : Nat} {w : World} {Z : Array Value} (hr : OwnRow w g 68 Z.toList) (hz : Z.size = 17448) (hc : chkW Z.toList = some []) (h1 : g < base) (h2 : base ≤ w.heap.size) : WOK base g w newW := by
  obtain ⟨p1, p2, -⟩ := chkW_pc hc
  refine ⟨h1, h2, Z.toList, hr, by simpa using hz, fun k hk => ?_⟩
  by_cases h0 : k = 0
  · subst h0
    exact ⟨.slice none 0 0, by rw [Nat.zero_mul]; exact p1, ownR_nil _ _ _⟩
  · refine ⟨.slice none 0 0, ?_, ?_⟩
    · have := p2 k (by omega) hk
      unfold newW
      rw [if_neg h0]
      exact this
    · unfold newW
      rw [if_neg h0]
      exact ownR_nil _ _ _

end Go.Proofs.Ytlhmfbkpmfofiai

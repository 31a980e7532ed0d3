/- The contract of the document's own answer framewardenref.HPages: what each page is like, or that the list is none. -/
import Derived.Test.YtgkniljbemkkhafReg3
import Derived.Laws.Rows
import Derived.Laws.Tables
namespace Go.Proofs.Ytgkniljbemkkhaf
open Go.RowKit
set_option linter.unusedSimpArgs false
set_option linter.unusedVariables false

/-- Sixty-four pointers as cells. -/
def ptrsL (A : Nat → Option Addr) : List Value := (List.range 64).map fun i => .pointer (A i)

theorem ptrsL_len (A : Nat → Option Addr) : (ptrsL A).length = 64 := by simp [ptrsL]

theorem ptrsL_get (A : Nat → Option Addr) (i : Nat) (hi : i < 64) : (ptrsL A)[i]? = some (.pointer (A i)) := by
  unfold ptrsL
  rw [List.getElem?_map, List.getElem?_range hi]
  rfl

def updP (A : Nat → Option Addr) (i : Nat) (p : Option Addr) : Nat → Option Addr := fun j => if j = i then p else A j

theorem ptrsL_set (A : Nat → Option Addr) (i : Nat) (p : Option Addr) : (ptrsL A).set i (.pointer p) = ptrsL (updP A i p) := by
  apply List.ext_getElem?
  intro j
  by_cases hj : j < 64
  · rw [ptrsL_get _ j hj]
    unfold updP
    by_cases h : j = i
    · subst h
      rw [List.getElem?_set_self (by rw [ptrsL_len]; exact hj)]
      simp
    · rw [List.getElem?_set_ne (fun e => h e.symm), ptrsL_get _ j hj]
      simp [h]
  · rw [List.getElem?_eq_none (by rw [List.length_set, ptrsL_len]; omega), List.getElem?_eq_none (by rw [ptrsL_len]; omega)]

theorem ptrsL_one (A : Nat → Option Addr) : (ptrsL A).toArray.all (·.oneCell') = true := by
  simp only [Array.all_eq_true_iff_forall_mem, List.mem_toArray]
  intro v hv
  unfold ptrsL at hv
  obtain ⟨i, -, rfl⟩ := List.mem_map.1 hv
  rfl

/-- p points at what a page is like. -/
def AtP (w : World) (p : Option Addr) : Option A4 → Prop
  | none => p = none
  | some a => ∃ b off, p = some ⟨b, off, none⟩ ∧ w.cell? ⟨b, off, none⟩ = some (.int .i64 a.1) ∧ w.cell? ⟨b, off + 1, none⟩ = some (.int .i64 a.2.1) ∧ w.cell? ⟨b, off + 2, none⟩ = some (.bool a.2.2.1) ∧ w.cell? ⟨b, off + 3, none⟩ = some (.bool a.2.2.2)

theorem AtP.keep {B : Nat} {w w' : World} {p : Option Addr} {o : Option A4} (h : AtP w p o) (hb : Below B w w') (hp : ∀ b off, p = some ⟨b, off, none⟩ → b < B) : AtP w' p o := by
  cases o with
  | none => exact h
  | some a =>
    obtain ⟨b, off, rfl, h0, h1, h2, h3⟩ := h
    have hlt := hp b off rfl
    exact ⟨b, off, rfl, (hb.cell hlt).trans h0, (hb.cell hlt).trans h1, (hb.cell hlt).trans h2, (hb.cell hlt).trans h3⟩

theorem AtP.lt {w : World} {p : Option Addr} {o : Option A4} (h : AtP w p o) : ∀ b off, p = some ⟨b, off, none⟩ → b < w.heap.size := by
  intro b off hp
  cases o with
  | none => rw [show p = none from h] at hp; cases hp
  | some a =>
    obtain ⟨b', off', rfl, h0, -⟩ := h
    simp only [Option.some.injEq, Addr.mk.injEq] at hp
    obtain ⟨rfl, rfl, -⟩ := hp
    exact cell_lt h0

theorem AtP.below {w w' : World} {p : Option Addr} {o : Option A4} (h : AtP w p o) (hb : Below w.heap.size w w') : AtP w' p o := h.keep hb h.lt

/-- The pointers A point at what o says. -/
def Pts (w : World) (A : Nat → Option Addr) (o : Nat → Option A4) : Prop := ∀ i, i < 64 → AtP w (A i) (o i)

theorem Pts.below {w w' : World} {A : Nat → Option Addr} {o : Nat → Option A4} (h : Pts w A o) (hb : Below w.heap.size w w') : Pts w' A o := fun i hi => (h i hi).below hb

/-- Where a block that nothing points at is written. -/
theorem AtP.spare {G : Nat} {w w' : World} {p : Option Addr} {o : Option A4} (h : AtP w p o) (hs : Spare G w w') (hp : ∀ b off, p = some ⟨b, off, none⟩ → b ≠ G) : AtP w' p o := by
  cases o with
  | none => exact h
  | some a =>
    obtain ⟨b, off, rfl, h0, h1, h2, h3⟩ := h
    have hne := hp b off rfl
    exact ⟨b, off, rfl, hs.cell h0 hne, hs.cell h1 hne, hs.cell h2 hne, hs.cell h3 hne⟩

theorem info_arr : (Try.prog.info? 46).map (·.size) = some 64 := by kernel_rfl

theorem load_arr {w : World} {g : Nat} {t : TypeId} (A : Nat → Option Addr) (h : OwnRow w g t (ptrsL A)) : (Instr.loadAt 46 (.pointer (some ⟨g, 0, none⟩))).run Try.prog w = .ok (.agg (ptrsL A).toArray) w := by
  simp only [Instr.loadAt, Instr.sureAddr, Sem.run_bind, Sem.run_pure, Result.andThen]
  exact run_loadVar_row w g t _ (ptrsL A).toArray (0, 0) _ h Try.underlying46 rfl (by rw [info_arr]; simp [ptrsL_len])

theorem heap_setRow (w : World) (g : Nat) (cs : Array Value) (old : Array Value) (t : TypeId) (h : w.heap[g]? = some (.cells old t (0, 0))) : (w.setRow g cs).heap[g]? = some (.cells cs t (0, 0)) := by
  simp [World.setRow, Array.getElem?_modify, h]

/-- A whole array is laid into a variable. -/
theorem store_arr {w : World} {g : Nat} {t : TypeId} (A A' : Nat → Option Addr) (h : OwnRow w g t (ptrsL A')) :
    (Instr.storeAt 46 (.pointer (some ⟨g, 0, none⟩)) (.agg (ptrsL A).toArray)).run Try.prog w = .ok () (w.setRow g (ptrsL A).toArray) ∧ (loadVar 46 ⟨g, 0, none⟩).run Try.prog (w.setRow g (ptrsL A).toArray) = .ok (.agg (ptrsL A).toArray) (w.setRow g (ptrsL A).toArray) := by
  refine ⟨?_, ?_⟩
  · simp only [Instr.storeAt, Instr.sureAddr, Sem.run_bind, Sem.run_pure, Result.andThen]
    exact run_storeVar_row w g t _ (ptrsL A').toArray (ptrsL A).toArray h (by rw [info_arr]; simp [ptrsL_len]) (by simp [ptrsL_len]) (ptrsL_one A)
  · exact run_loadVar_row _ g t _ (ptrsL A).toArray (0, 0) _ (heap_setRow w g _ _ t h) Try.underlying46 rfl (by rw [info_arr]; simp [ptrsL_len])

/-- A variable's value and a truth, as they are returned. -/
theorem results_cell_tmp {P : Program} {fn : Func} {p q : Tmp} {ty : TypeId} (h : fn.results = #[.cell p ty, .tmp q]) (tmps : Array Value) (w : World) (A : Addr) (X Y : Value)
    (hp : tmps.getD p undef = .pointer (some A)) (hq : tmps.getD q undef = Y) (hl : (loadVar ty A).run P w = .ok X w) : (results fn tmps).run P w = .ok (.tuple #[X, Y]) w := by
  have hp' : tmps[p]?.getD undef = .pointer (some A) := by simpa using hp
  have hq' : tmps[q]?.getD undef = Y := by simpa using hq
  simp [results, h, hp', hq', asAddr, hl]

theorem Spare.setCell {g : Nat} {w w1 : World} (h : Spare g w w1) (o : Nat) (v : Value) : Spare g w (w1.setCell ⟨g, o, none⟩ v) := h.setCells o [v]

/-- A page's own copy of what it is like, and the pointer to it. -/
theorem page_put {w : World} {G q lo : Nat} {t : TypeId} {A : Nat → Option Addr} {o : Nat → Option A4} (r k : Int) (g s : Bool) (ty : TypeId) (hrow : OwnRow w G t (ptrsL A)) (hp : Pts w A o) (hq : ∀ i b off, i < 64 → A i = some ⟨b, off, none⟩ → lo ≤ b) (hG : G < lo) (hlo : lo ≤ w.heap.size) :
    OwnRow ((w.setCell ⟨G, q, none⟩ (.pointer (some ⟨w.heap.size, 0, none⟩))).alloc (.cells #[.int .i64 r, .int .i64 k, .bool g, .bool s] ty)) G t (ptrsL (updP A q (some ⟨w.heap.size, 0, none⟩))) ∧
    Pts ((w.setCell ⟨G, q, none⟩ (.pointer (some ⟨w.heap.size, 0, none⟩))).alloc (.cells #[.int .i64 r, .int .i64 k, .bool g, .bool s] ty)) (updP A q (some ⟨w.heap.size, 0, none⟩)) (fun i => if i = q then some (r, k, g, s) else o i) ∧
    (∀ i b off, i < 64 → updP A q (some ⟨w.heap.size, 0, none⟩) i = some ⟨b, off, none⟩ → lo ≤ b) ∧
    Spare G w ((w.setCell ⟨G, q, none⟩ (.pointer (some ⟨w.heap.size, 0, none⟩))).alloc (.cells #[.int .i64 r, .int .i64 k, .bool g, .bool s] ty)) := by
  have hsz : (w.setCell ⟨G, q, none⟩ (.pointer (some ⟨w.heap.size, 0, none⟩))).heap.size = w.heap.size := size_setCells [.pointer (some ⟨w.heap.size, 0, none⟩)] q w
  have hsp : Spare G w ((w.setCell ⟨G, q, none⟩ (.pointer (some ⟨w.heap.size, 0, none⟩))).alloc (.cells #[.int .i64 r, .int .i64 k, .bool g, .bool s] ty)) := ((Spare.refl G w).setCell q _).alloc _
  have hr1 := hrow.set q (.pointer (some ⟨w.heap.size, 0, none⟩))
  rw [ptrsL_set] at hr1
  refine ⟨hr1.below ((Below.refl _ _).alloc (Nat.le_refl _) _) hr1.lt, fun i hi => ?_, fun i b off hi he => ?_, hsp⟩
  · by_cases hiq : i = q
    · subst hiq
      have hnew : OwnRow ((w.setCell ⟨G, i, none⟩ (.pointer (some ⟨w.heap.size, 0, none⟩))).alloc (.cells #[.int .i64 r, .int .i64 k, .bool g, .bool s] ty)) w.heap.size ty [.int .i64 r, .int .i64 k, .bool g, .bool s] := by
        have := heap_alloc_new (w.setCell ⟨G, i, none⟩ (.pointer (some ⟨w.heap.size, 0, none⟩))) (.cells #[.int .i64 r, .int .i64 k, .bool g, .bool s] ty)
        rw [hsz] at this
        exact this
      obtain ⟨c0, c1, c2, c3⟩ := hnew.quad
      show AtP _ _ (if i = i then _ else _)
      rw [if_pos rfl]
      refine ⟨w.heap.size, 0, ?_, c0, c1, c2, c3⟩
      unfold updP
      rw [if_pos rfl]
    · show AtP _ _ (if i = q then _ else _)
      rw [if_neg hiq]
      have e : updP A q (some ⟨w.heap.size, 0, none⟩) i = A i := by unfold updP; rw [if_neg hiq]
      rw [e]
      exact (hp i hi).spare hsp (fun b off hb => by have := hq i b off hi hb; omega)
  · unfold updP at he
    by_cases hiq : i = q
    · rw [if_pos hiq] at he
      simp only [Option.some.injEq, Addr.mk.injEq] at he
      omega
    · rw [if_neg hiq] at he
      exact hq i b off hi he

theorem asc_step (lo hi : Int) (l : List R6) (k : Nat) (hk : k < l.length) : Asc lo hi (l.drop k) ↔ lo ≤ (l.getD k zR).1 ∧ (l.getD k zR).1 < (l.getD k zR).2.1 ∧ Asc (l.getD k zR).2.1 hi (l.drop (k + 1)) := by
  rw [List.drop_eq_getElem_cons hk, List.getD_eq_getElem?_getD, List.getElem?_eq_getElem hk]
  rfl

set_option maxHeartbeats 1600000 in
theorem hpages_any (v : Value) (l : List R6) (B : Nat) (w : World) (h : IsRecs encR B w v l) (hB : B ≤ 4398046511104) :
    Calls Try.prog 20 #[v] w fun e w' => ∃ A b, e = .returned (.tuple #[.agg (ptrsL A).toArray, .bool b]) ∧ (b = true ↔ Asc 0 64 l) ∧ (b = true → Pts w' A (fun i => atR l i)) ∧ Below w.heap.size w w' := by
  obtain ⟨a, cap, rfl, h1, hl, hc'⟩ := h
  obtain ⟨n, hn⟩ : ∃ n, Hid (n = l.length) := ⟨_, rfl⟩
  rw [← hn.out] at hl hc' ⊢
  have h2 := own_two (w := w) (xs := ptrsL fun _ => none) (ys := ptrsL fun _ => none) (e := 46) (e' := 46) (Below.refl _ _)
  have hb2 : Below w.heap.size w ((w.alloc (.cells (ptrsL fun _ => none).toArray 46)).alloc (.cells (ptrsL fun _ => none).toArray 46)) := ((Below.refl _ _).alloc (Nat.le_refl _) _).alloc (by simp) _
  have H2 : Hid (_ ∧ _) := ⟨h2, hb2⟩
  clear h2 hb2
  obtain ⟨G, hG⟩ : ∃ G, Hid (G = w.heap.size) := ⟨_, rfl⟩
  go_enter Try.func20, Try.ntmps20
  go_wp2_with fail
  go_loopw [5, 12] (fun la i wr => ∃ (k : Nat) (L : Int) (A : Nat → Option Addr), k ≤ n ∧ i = .int .i64 k ∧ la = .int .i64 L ∧ 0 ≤ L ∧ L ≤ 64 ∧ Hid (OwnRow wr w.heap.size 46 (ptrsL fun _ => none)) ∧ Hid (OwnRow wr (w.heap.size + 1) 46 (ptrsL A)) ∧ Hid (Pts wr A (fun i => atR (l.take k) i)) ∧ Hid (∀ i b off, i < 64 → A i = some ⟨b, off, none⟩ → w.heap.size + 2 ≤ b) ∧ Hid (Asc 0 L (l.take k)) ∧ Hid (Asc 0 64 l ↔ Asc L 64 (l.drop k)) ∧ Below w.heap.size w wr) (fun _ i _ => n - (intOf i).toNat)
  case atStart => exact ⟨0, 0, fun _ => none, Nat.zero_le _, rfl, rfl, Int.le_refl _, by decide, H2.out.1.1, H2.out.1.2, fun i hi => rfl, (fun i b off hi h => by cases h), Int.le_refl _, Iff.rfl, H2.out.2⟩
  clear H2
  case round =>
    obtain ⟨k, L, A, hk, rfl, rfl, hL0, hL1, hr1, hr2, hpt, hpb, hasc, hiff, hbel⟩ := hrel
    have hz2 : w.heap.size + 1 < wr.heap.size := hr2.out.lt
    by_cases hlt : k < n
    · obtain ⟨b, off, rfl, hc⟩ := hc' (by omega)
      have hkl : k < l.length := by rw [← hn.out]; exact hlt
      have HS : Hid _ := asc_step L 64 l k hkl
      have HT : Hid _ := take_snoc l k hkl
      obtain ⟨⟨pf, pt, pr, pk, pg, ps⟩, hp⟩ : ∃ p, p = l.getD k zR := ⟨_, rfl⟩
      obtain ⟨hk0, hk1, hk2, hk3, hk4, hk5⟩ := cell6 hc hbel k hkl hp
      rw [← hp] at HS HT
      clear hp
      simp only at HS
      have hbx : Hid (∀ o, Below wr.heap.size wr (wr.alloc o)) := fun o => (Below.refl _ _).alloc (Nat.le_refl _) _
      by_cases hbad : pf < L ∨ pt ≤ pf ∨ 64 < pt
      · obtain ⟨X, hX⟩ : ∃ X, Hid (X = (ptrsL A).toArray) := ⟨_, rfl⟩
        have hsz : (Try.prog.info? 46).map (·.size) = some X.size := by rw [info_arr, hX.out]; simp [ptrsL_len]
        have HSZ : Hid ((Try.prog.info? 46).map (·.size) = some X.size ∧ ((ptrsL fun _ => none).toArray.size = X.size) ∧ X.all (·.oneCell') = true) := ⟨hsz, by rw [hX.out]; simp [ptrsL_len], by rw [hX.out]; exact ptrsL_one A⟩
        clear hsz
        have HR2 : Hid (∀ o, (wr.alloc o).heap[w.heap.size + 1]? = some (.cells X 46 (0, 0))) := fun o => by rw [hX.out]; exact hr2.out.below (hbx.out o) hr2.out.lt
        have HR1 : Hid (∀ o, (wr.alloc o).heap[w.heap.size]? = some (.cells (ptrsL fun _ => none).toArray 46 (0, 0))) := fun o => hr1.out.below (hbx.out o) hr1.out.lt
        have hrs : ∀ o, (loadVar 46 ⟨w.heap.size, 0, none⟩).run Try.prog ((wr.alloc o).setRow w.heap.size X) = .ok (.agg X) ((wr.alloc o).setRow w.heap.size X) := fun o => by rw [hX.out]; exact (store_arr A _ (hr1.out.below (hbx.out o) hr1.out.lt)).2
        have HRS : Hid _ := hrs
        clear hrs
        have HN : Hid (¬ Asc 0 64 l) := by
          intro hh
          rw [hiff.out, HS.out] at hh
          have := hh.2.2.le
          omega
        have HB : Hid (∀ o, Below w.heap.size w ((wr.alloc o).setRow w.heap.size (ptrsL A).toArray)) := fun o => below_setRow (hbel.trans ((hbx.out o).mono hbel.size)) (Nat.le_refl _) _
        have hcase : (decide (pf < L) = true) ∨ (decide (pf < L) = false ∧ decide (pt ≤ pf) = true) ∨ (decide (pf < L) = false ∧ decide (pt ≤ pf) = false ∧ decide (64 < pt) = true) := by
          by_cases a1 : pf < L
          · exact Or.inl (by simpa using a1)
          · by_cases a2 : pt ≤ pf
            · exact Or.inr (Or.inl ⟨by simpa using a1, by simpa using a2⟩)
            · exact Or.inr (Or.inr ⟨by simpa using a1, by simpa using a2, by simp; omega⟩)
        rw [← hX.out] at HB
        rcases hcase with d1 | ⟨d1, d2⟩ | ⟨d1, d2, d3⟩
        all_goals
          go_wp2_with (first
            | (refine wpList_load_row rfl 46 (.tmp 4) rfl (w.heap.size + 1) rfl 46 X (0, 0) _ (HR2.out _) Try.underlying46 rfl HSZ.out.1 ?_)
            | (refine wpList_store_row rfl 46 (.tmp 2) _ rfl w.heap.size X rfl rfl 46 _ (HR1.out _) HSZ.out.1 HSZ.out.2.1 HSZ.out.2.2 ?_))
          exact bodyPost_ret (v := .tuple #[.agg X, .bool false]) (results_cell_tmp Try.results20 _ _ _ _ _ rfl rfl (HRS.out _)) rfl ⟨A, false, by rw [← hX.out], ⟨fun h => by (cases h), fun h => absurd h HN.out⟩, (fun h => by cases h), HB.out _⟩
      · have hok : L ≤ pf ∧ pf < pt ∧ pt ≤ 64 := by omega
        clear hbad
        obtain ⟨wo, rfl⟩ : ∃ wo, wo = wr := ⟨_, rfl⟩
        obtain ⟨o1, o2, o3⟩ := hok
        obtain ⟨P, rfl⟩ : ∃ P : Nat, pf = P := ⟨pf.toNat, by omega⟩
        have d1 : decide ((P : Int) < L) = false := by simp; omega
        have d2 : decide (pt ≤ (P : Int)) = false := by simp; omega
        have d3 : decide (64 < pt) = false := by simp; omega
        have hdk : decide ((k : Int) < (n : Int)) = true := by simp; omega
        go_wp2_with fail
        have hbx1 := hbx.out (.cells #[.int .i64 P, .int .i64 pt, .int .i64 pr, .int .i64 pk, .bool pg, .bool ps] 36)
        have hbox : OwnRow (wo.alloc (.cells #[.int .i64 P, .int .i64 pt, .int .i64 pr, .int .i64 pk, .bool pg, .bool ps] 36)) wo.heap.size 36 (encR (P, pt, pr, pk, pg, ps)) := heap_alloc_new wo _
        generalize (wo.alloc (.cells #[.int .i64 P, .int .i64 pt, .int .i64 pr, .int .i64 pk, .bool pg, .bool ps] 36)) = W1 at hbx1 hbox ⊢
        have HBX : Hid (Below wo.heap.size wo W1 ∧ OwnRow W1 wo.heap.size 36 (encR (P, pt, pr, pk, pg, ps))) := ⟨hbx1, hbox⟩
        clear hdk hbx1 hbox d1 d2 d3
        go_loopw [8] (fun p ws => ∃ (q : Nat) (A' : Nat → Option Addr), p = .int .i64 q ∧ P ≤ q ∧ (q : Int) ≤ pt ∧ Hid (OwnRow ws w.heap.size 46 (ptrsL fun _ => none)) ∧ Hid (OwnRow ws (w.heap.size + 1) 46 (ptrsL A')) ∧ Hid (OwnRow ws wo.heap.size 36 (encR (P, pt, pr, pk, pg, ps))) ∧ Hid (Pts ws A' (fun i => if iv P q i then some (pr, pk, pg, ps) else atR (l.take k) i)) ∧ Hid (∀ i b off, i < 64 → A' i = some ⟨b, off, none⟩ → w.heap.size + 2 ≤ b) ∧ Below w.heap.size w ws) (fun i _ => 64 - (intOf i).toNat)
        case atStart =>
          refine ⟨P, A, rfl, Nat.le_refl _, by omega, hr1.out.below HBX.out.1 hr1.out.lt, hr2.out.below HBX.out.1 hr2.out.lt, HBX.out.2, fun i hi => ?_, hpb.out, hbel.trans (HBX.out.1.mono hbel.size)⟩
          show AtP _ _ (if _ then _ else _)
          rw [if_neg (by rw [iv_iff]; omega)]
          exact (hpt.out i hi).below HBX.out.1
        case round =>
          obtain ⟨q, A', rfl, hq1, hq2, hs1, hs2, hs3, hsp, hsb, hbel2⟩ := hrel
          have z1 : w.heap.size + 1 < wr.heap.size := hs2.out.lt
          have z2 : wo.heap.size < wr.heap.size := hs3.out.lt
          obtain ⟨c0, c1, c2, c3, c4, c5⟩ := hs3.out.six
          have c1' : wr.cell? ⟨wo.heap.size, 1, none⟩ = some (.int .i64 pt) := c1
          have c2' : wr.cell? ⟨wo.heap.size, 2, none⟩ = some (.int .i64 pr) := c2
          have c3' : wr.cell? ⟨wo.heap.size, 3, none⟩ = some (.int .i64 pk) := c3
          have c4' : wr.cell? ⟨wo.heap.size, 4, none⟩ = some (.bool pg) := c4
          have c5' : wr.cell? ⟨wo.heap.size, 5, none⟩ = some (.bool ps) := c5
          clear c0 c1 c2 c3 c4 c5
          by_cases hq3 : (q : Int) < pt
          · have hq64 : q < 64 := by omega
            have e0 : wr.cell? ⟨w.heap.size + 1, q, none⟩ = some (.pointer (A' q)) := by rw [hs2.out.cell, ptrsL_get _ _ hq64]
            have e1 := hs2.out.free q
            go_wp2
            obtain ⟨t1, t2, t3, t4⟩ := page_put (q := q) (lo := w.heap.size + 2) pr pk pg ps 31 hs2.out hsp.out hsb.out (by omega) (by omega)
            refine ⟨⟨q + 1, _, by go_num, by omega, by omega, t4.row hs1.out (by omega), t1, t4.row hs3.out (by omega), fun i hi => ?_, t3, (hbel2.setCell (by simp) _).alloc (by have := hbel2.size; rw [show (wr.setCell ⟨w.heap.size + 1, q, none⟩ (.pointer (some ⟨wr.heap.size, 0, none⟩))).heap.size = wr.heap.size from size_setCells [.pointer (some ⟨wr.heap.size, 0, none⟩)] q wr]; exact this) _⟩, by simp [intOf]; omega⟩
            have hi2 := t2 i hi
            simp only at hi2 ⊢
            by_cases h1 : i = q
            · rw [if_pos h1] at hi2
              rw [if_pos (by rw [iv_iff]; omega)]
              exact hi2
            · rw [if_neg h1] at hi2
              by_cases h2 : iv P q i = true
              · rw [if_pos h2] at hi2
                rw [iv_iff] at h2
                rw [if_pos (by rw [iv_iff]; omega)]
                exact hi2
              · rw [if_neg h2] at hi2
                rw [iv_iff] at h2
                rw [if_neg (by rw [iv_iff]; omega)]
                exact hi2
          · go_wp2
            have hqp : (q : Int) = pt := by omega
            refine ⟨⟨k + 1, pt, A', by omega, by go_num, rfl, by omega, by omega, hs1, hs2, fun i hi => ?_, hsb, ?_, ?_, hbel2⟩, by simp [intOf]; omega⟩
            · have hi2 := hsp.out i hi
              simp only at hi2 ⊢
              rw [HT.out, at_append, atR, atR]
              simp only
              rw [hqp] at hi2
              by_cases h2 : iv P pt i = true
              · rw [if_pos h2] at hi2
                rw [if_pos h2, at_hi hasc.out (by rw [iv_iff] at h2; omega)]
                exact hi2
              · rw [if_neg h2] at hi2
                rw [if_neg h2, Option.or_none]
                exact hi2
            · show Asc _ _ _
              rw [HT.out]
              exact hasc.out.append ⟨by omega, by simp only; omega, Int.le_refl _⟩
            · show _ ↔ _
              rw [hiff.out, HS.out]
              exact ⟨fun h => h.2.2, fun h => ⟨by omega, by omega, h⟩⟩
    · obtain ⟨X, hX⟩ : ∃ X, Hid (X = (ptrsL A).toArray) := ⟨_, rfl⟩
      have hsz : (Try.prog.info? 46).map (·.size) = some X.size := by rw [info_arr, hX.out]; simp [ptrsL_len]
      have HSZ : Hid ((Try.prog.info? 46).map (·.size) = some X.size ∧ ((ptrsL fun _ => none).toArray.size = X.size) ∧ X.all (·.oneCell') = true) := ⟨hsz, by rw [hX.out]; simp [ptrsL_len], by rw [hX.out]; exact ptrsL_one A⟩
      clear hsz
      have HR2 : Hid (wr.heap[w.heap.size + 1]? = some (.cells X 46 (0, 0))) := by rw [hX.out]; exact hr2.out
      have HR1 : Hid (wr.heap[w.heap.size]? = some (.cells (ptrsL fun _ => none).toArray 46 (0, 0))) := hr1.out
      have HRS : Hid ((loadVar 46 ⟨w.heap.size, 0, none⟩).run Try.prog (wr.setRow w.heap.size X) = .ok (.agg X) (wr.setRow w.heap.size X)) := by rw [hX.out]; exact (store_arr A _ hr1.out).2
      have HB : Hid (Below w.heap.size w (wr.setRow w.heap.size (ptrsL A).toArray)) := below_setRow hbel (Nat.le_refl _) _
      have HP : Hid (Pts (wr.setRow w.heap.size (ptrsL A).toArray) A (fun i => atR l i)) := by
        intro i hi
        have := hpt.out i hi
        simp only [List.take_of_length_le (show l.length ≤ k by rw [← hn.out]; omega)] at this
        refine this.spare (G := w.heap.size) ⟨by simp, fun g _ hne => setRow_other wr w.heap.size g _ hne⟩ (fun b off hb => by have := hpb.out i b off hi hb; omega)
      have HN : Hid (Asc 0 64 l) := by
        show Asc 0 64 l
        rw [hiff.out, List.drop_of_length_le (by rw [← hn.out]; omega)]
        exact hL1
      rw [← hX.out] at HB HP
      go_wp2_with (first
        | (refine wpList_load_row rfl 46 (.tmp 4) rfl (w.heap.size + 1) rfl 46 X (0, 0) _ (HR2.out) Try.underlying46 rfl HSZ.out.1 ?_)
        | (refine wpList_store_row rfl 46 (.tmp 2) _ rfl w.heap.size X rfl rfl 46 _ (HR1.out) HSZ.out.1 HSZ.out.2.1 HSZ.out.2.2 ?_))
      exact bodyPost_ret (v := .tuple #[.agg X, .bool true]) (results_cell_tmp Try.results20 _ _ _ _ _ rfl rfl HRS.out) rfl ⟨A, true, by rw [← hX.out], ⟨fun _ => HN.out, fun _ => rfl⟩, fun _ => HP.out, HB.out⟩

end Go.Proofs.Ytgkniljbemkkhaf

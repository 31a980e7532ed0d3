/- The contract of flat.world.fault: the first fault of all, page by page. -/
import Derived.Test.YtbiipnojhjhejaaFlatLd
namespace Go.Proofs.Ytbiipnojhjhejaa
set_option maxRecDepth 100000
open Go.RowKit
set_option linter.unusedSimpArgs false
set_option linter.unusedVariables false

/-- The first fault of a list of pieces; and what memory is behind the looks. -/
def scan (p : Pr) (o : O12) : List (Nat × Nat) → Int × Int
  | [] => (0, 0)
  | x :: r => if (pfl p o x.1 x.2).1 = 0 then scan p o r else pfl p o x.1 x.2
def pfS {σ : Type} (M : Mem σ) (S : W4) (k : Nat) (o : O12) (s : σ) (x : Nat × Nat) : σ := pflS M S s k o x.1 x.2
def scanS {σ : Type} (M : Mem σ) (S : W4) (k : Nat) (o : O12) : List (Nat × Nat) → σ → σ
  | [], s => s
  | x :: r, s => if (pfl (S k) o x.1 x.2).1 = 0 then scanS M S k o r (pfS M S k o s x) else pfS M S k o s x
def fauS {σ : Type} (M : Mem σ) (S : W4) (s : σ) (k : Nat) (o : O12) : σ := scanS M S k o (segs 65 (tF o) (tT o)) s

theorem flt_scan (p : Pr) (o : O12) : ∀ (n f t : Nat), flt p o n f t = scan p o (segs n f t)
  | 0, _, _ => rfl
  | n + 1, f, t => by
    rw [flt, segs]
    by_cases h : f < t
    · rw [if_pos h, if_pos h, scan, flt_scan p o n]
    · rw [if_neg h, if_neg h]; rfl

theorem scan_all (p : Pr) (o : O12) : ∀ (l : List (Nat × Nat)), (∀ x ∈ l, (pfl p o x.1 x.2).1 = 0) → scan p o l = (0, 0)
  | [], _ => rfl
  | x :: r, h => by rw [scan, if_pos (h x List.mem_cons_self), scan_all p o r (fun y hy => h y (List.mem_cons_of_mem _ hy))]

theorem scan_at (p : Pr) (o : O12) (x : Nat × Nat) (hx : (pfl p o x.1 x.2).1 ≠ 0) (r : List (Nat × Nat)) : ∀ (l : List (Nat × Nat)), (∀ x ∈ l, (pfl p o x.1 x.2).1 = 0) → scan p o (l ++ [x] ++ r) = pfl p o x.1 x.2
  | [], _ => by rw [List.nil_append, List.singleton_append, scan, if_neg hx]
  | y :: l, h => by
    rw [List.cons_append, List.cons_append, scan, if_pos (h y List.mem_cons_self)]
    exact scan_at p o x hx r l (fun z hz => h z (List.mem_cons_of_mem _ hz))

theorem scanS_all {σ : Type} (M : Mem σ) (S : W4) (k : Nat) (o : O12) : ∀ (l : List (Nat × Nat)) (s : σ), (∀ x ∈ l, (pfl (S k) o x.1 x.2).1 = 0) → scanS M S k o l s = l.foldl (pfS M S k o) s
  | [], s, _ => rfl
  | x :: r, s, h => by rw [scanS, if_pos (h x List.mem_cons_self), scanS_all M S k o r _ (fun y hy => h y (List.mem_cons_of_mem _ hy))]; rfl

theorem scanS_at {σ : Type} (M : Mem σ) (S : W4) (k : Nat) (o : O12) (x : Nat × Nat) (hx : (pfl (S k) o x.1 x.2).1 ≠ 0) (r : List (Nat × Nat)) : ∀ (l : List (Nat × Nat)) (s : σ), (∀ x ∈ l, (pfl (S k) o x.1 x.2).1 = 0) → scanS M S k o (l ++ [x] ++ r) s = (l ++ [x]).foldl (pfS M S k o) s
  | [], s, _ => by rw [List.nil_append, List.singleton_append, scanS, if_neg hx]; rfl
  | y :: l, s, h => by
    rw [List.cons_append, List.cons_append, scanS, if_pos (h y List.mem_cons_self)]
    exact scanS_at M S k o x hx r l _ (fun z hz => h z (List.mem_cons_of_mem _ hz))

/-- A call within a round that leaves processes and their memory so. -/
theorem LoopI.stepG {σ : Type} {M : Mem σ} {base g : Nat} {S : W4} {w : World} {rs : List (Nat × TypeId × List Value)} {st st' : σ} {V : MV} {W w' : World} (h : LoopI M base g S w rs st V W) (hrs : ∀ r ∈ rs, r.1 ≠ g ∧ M.wr r.2.1 = false) (hm : WM M base g w' S st') (hmk : MKg M g W w') :
    LoopI M base g S w rs st' (vw S) w' ∧ KeepsOthers W w' ∧ ∀ r ∈ rs, w'.heap[r.1]? = W.heap[r.1]? := by
  have hrow : ∀ r ∈ rs, OwnRow w' r.1 r.2.1 r.2.2 := fun r hr => hmk.row (h.rows r hr) (hrs r hr).1 (hrs r hr).2
  obtain ⟨-, -, xs, hrg, -⟩ := h.wok
  exact ⟨⟨hm.wok, hm.ok, hm.rel, h.keep.trans hmk, hrow⟩, hmk.keepsOthers hrg, fun r hr => (hrow r hr).trans (h.rows r hr).symm⟩

set_option maxHeartbeats 3200000 in
theorem fault_any {σ : Type} (M : Mem σ) (base g : Nat) (S : W4) (s : σ) (k : Nat) (hk : k < 4) (hlk : (S k).live = true) (o : O12) (hp : o.proc = k) (hT2 : tT o ≤ 4096) (w : World) (h : WM M base g w S s) (hi : Inv S) :
    Calls Try.prog 42 #[.pointer (some ⟨g, 0, none⟩), opV o, .int .i64 (tF o), .int .i64 (tT o)] w fun e w' => e = .returned (.tuple #[.int .i64 (flt (S k) o 65 (tF o) (tT o)).1, .int .i64 (flt (S k) o 65 (tF o) (tT o)).2]) ∧ WM M base g w' S (fauS M S s k o) ∧ MKg M g w w' := by
  have hg := h.wok.glt
  have HX : Hid (flt (S k) o 65 (tF o) (tT o) = scan (S k) o (segs 65 (tF o) (tT o))) := flt_scan _ _ _ _ _
  have HZ : Hid (fauS M S s k o = scanS M S k o (segs 65 (tF o) (tT o)) s) := rfl
  generalize flt (S k) o 65 (tF o) (tT o) = X at *
  generalize fauS M S s k o = Z at *
  obtain ⟨A, hA⟩ : ∃ A, A = tF o := ⟨_, rfl⟩
  obtain ⟨B, hB⟩ : ∃ B, B = tT o := ⟨_, rfl⟩
  rw [← hA] at HX HZ
  rw [← hB] at hT2 HX HZ
  rw [← hA, ← hB]
  clear hA hB
  have HPF : Hid (∀ (x : Seg A B) (W : World) (st : σ), WM M base g W S st → Calls Try.prog 55 #[.pointer (some ⟨g, 0, none⟩), opV o, .int .i64 (x.1.1 : Int), .int .i64 (x.1.2 : Int)] W fun e w' => e = .returned (.tuple #[.int .i64 (pfl (S k) o x.1.1 x.1.2).1, .int .i64 (pfl (S k) o x.1.1 x.1.2).2]) ∧ WM M base g w' S (pfS M S k o st x.1) ∧ MKg M g W w') :=
    fun x W st hW => pageFault_any M base g S st k hk hlk o hp x.1.1 x.1.2 x.2.2.1 x.2.2.2.2.1 (by have := x.2.2.2.1; omega) W hW hi
  obtain ⟨PF, hPF⟩ : ∃ PF : Nat × Nat → Int × Int, PF = fun x => pfl (S k) o x.1 x.2 := ⟨_, rfl⟩
  obtain ⟨PS, hPS⟩ : ∃ PS : σ → Nat × Nat → σ, PS = pfS M S k o := ⟨_, rfl⟩
  have HAL : Hid (∀ l : List (Nat × Nat), l = segs 65 A B → (∀ x ∈ l, (PF x).1 = 0) → X = (0, 0) ∧ Z = l.foldl PS s) := fun l hl hz => by
    subst hPF; subst hPS
    exact ⟨by rw [HX.out, ← hl]; exact scan_all _ _ l hz, by rw [HZ.out, ← hl]; exact scanS_all _ _ _ _ l s hz⟩
  have HAT : Hid (∀ (l : List (Nat × Nat)) (x : Nat × Nat), l ++ [x] <+: segs 65 A B → (∀ x ∈ l, (PF x).1 = 0) → (PF x).1 ≠ 0 → X = PF x ∧ Z = (l ++ [x]).foldl PS s) := fun l x hl hz hx => by
    subst hPF; subst hPS
    obtain ⟨r, hr⟩ := hl
    exact ⟨by rw [HX.out, ← hr]; exact scan_at _ _ x hx r l hz, by rw [HZ.out, ← hr]; exact scanS_at _ _ _ _ x hx r l s hz⟩
  have HPF2 : Hid (∀ (x : Seg A B) (W : World) (st : σ), WM M base g W S st → Calls Try.prog 55 #[.pointer (some ⟨g, 0, none⟩), opV o, .int .i64 (x.1.1 : Int), .int .i64 (x.1.2 : Int)] W fun e w' => e = .returned (.tuple #[.int .i64 (PF x.1).1, .int .i64 (PF x.1).2]) ∧ WM M base g w' S (PS st x.1) ∧ MKg M g W w') := by
    subst hPF; subst hPS; exact HPF.out
  clear HPF HX HZ hPF hPS hi hlk
  obtain ⟨kind, proc, page, count, rights, key, tagged, draw, addr, size, value, tag⟩ := o
  simp only at hp ⊢
  subst hp
  refine (callsIn_wide (n := 3)).1 ?_
  refine callsIn_of_wp_marks Try.func42 rfl trivial ?_ rfl
  simp only [Try.ntmps42, List.size_toArray, List.length_cons, List.length_nil, Nat.reduceAdd, Nat.reduceSub, Array.replicate_succ, Array.replicate_zero, List.push_toArray, List.append_toArray, List.nil_append, List.cons_append]
  gi_wp2_with (refine ⟨trivial, ?_⟩; gi_at_call 54; refine (callsIn_wide.2 (byPage_any _ _ _)).mono ?_; rintro e w1 ⟨rfl, rfl⟩)
  obtain ⟨W0, hW0, hbw, hbo, hb1, hb2, hbf, hbt, hbel, hsz⟩ := boxes6 w (.cells #[.pointer (some ⟨g, 0, none⟩)] 72) (.cells #[.int .i64 kind, .int .i64 (k : Int), .int .i64 page, .int .i64 count, .int .i64 rights, .int .i64 key, .bool tagged, .int .i64 draw, .int .i64 addr, .int .i64 size, .int .i64 value, .int .i64 tag] 24) (.cells #[.int .i64 0] 3) (.cells #[.int .i64 0] 3) (.cells #[.int .i64 A] 3) (.cells #[.int .i64 B] 3)
  rw [hW0]
  obtain ⟨n0, hn0⟩ : ∃ n0, n0 = w.heap.size := ⟨_, rfl⟩
  have hwm := h.below hbel
  clear hW0
  rw [← hn0] at hbw hbo hb1 hb2 hsz hbf hbt ⊢
  have HRS : Hid (∀ r ∈ ([(n0, 72, [.pointer (some ⟨g, 0, none⟩)]), (n0 + 1, 24, [.int .i64 kind, .int .i64 (k : Int), .int .i64 page, .int .i64 count, .int .i64 rights, .int .i64 key, .bool tagged, .int .i64 draw, .int .i64 addr, .int .i64 size, .int .i64 value, .int .i64 tag]), (n0 + 1 + 1 + 1 + 1, 3, [.int .i64 A]), (n0 + 1 + 1 + 1 + 1 + 1, 3, [.int .i64 B])] : List (Nat × TypeId × List Value)), OwnRow W0 r.1 r.2.1 r.2.2) := by
    intro r hr
    simp only [List.mem_cons, List.not_mem_nil, or_false] at hr
    rcases hr with rfl | rfl | rfl | rfl
    · exact hbw
    · exact hbo
    · exact hbf
    · exact hbt
  have HN : Hid (n0 = w.heap.size) := hn0
  have hgn : g < n0 := by omega
  clear hn0
  have HRG : Hid (∀ r ∈ ([(n0, 72, [.pointer (some ⟨g, 0, none⟩)]), (n0 + 1, 24, [.int .i64 kind, .int .i64 (k : Int), .int .i64 page, .int .i64 count, .int .i64 rights, .int .i64 key, .bool tagged, .int .i64 draw, .int .i64 addr, .int .i64 size, .int .i64 value, .int .i64 tag]), (n0 + 1 + 1 + 1 + 1, 3, [.int .i64 A]), (n0 + 1 + 1 + 1 + 1 + 1, 3, [.int .i64 B])] : List (Nat × TypeId × List Value)), r.1 ≠ g ∧ M.wr r.2.1 = false) := by
    intro r hr
    simp only [List.mem_cons, List.not_mem_nil, or_false] at hr
    rcases hr with rfl | rfl | rfl | rfl
    · exact ⟨Nat.ne_of_gt hgn, M.hwr.2.2.2.2.2.2⟩
    · exact ⟨by show n0 + 1 ≠ g; omega, M.hwr.2.2.1⟩
    · exact ⟨by show n0 + 1 + 1 + 1 + 1 ≠ g; omega, M.hwr.2.2.2.2.1⟩
    · exact ⟨by show n0 + 1 + 1 + 1 + 1 + 1 ≠ g; omega, M.hwr.2.2.2.2.1⟩
  have HRV : Hid (∀ b, b = n0 + 1 + 1 ∨ b = n0 + 1 + 1 + 1 → ∀ r ∈ ([(n0, 72, [.pointer (some ⟨g, 0, none⟩)]), (n0 + 1, 24, [.int .i64 kind, .int .i64 (k : Int), .int .i64 page, .int .i64 count, .int .i64 rights, .int .i64 key, .bool tagged, .int .i64 draw, .int .i64 addr, .int .i64 size, .int .i64 value, .int .i64 tag]), (n0 + 1 + 1 + 1 + 1, 3, [.int .i64 A]), (n0 + 1 + 1 + 1 + 1 + 1, 3, [.int .i64 B])] : List (Nat × TypeId × List Value)), r.1 ≠ b) := by
    intro b hb r hr
    simp only [List.mem_cons, List.not_mem_nil, or_false] at hr
    rcases hr with rfl | rfl | rfl | rfl <;> (dsimp only; omega)
  refine wpIn_rangeFunc_ownF (F := Fence.wide) (n := 3) rfl (by decide) (gf := 72) (lb := #[.pointer (some ⟨n0 + 1 + 1 + 1 + 1, 0, none⟩), .pointer (some ⟨n0 + 1 + 1 + 1 + 1 + 1, 0, none⟩)]) rfl trivial (enters_of Try.func72 (by kernel_rfl) rfl)
    (byPage_stops A B hT2 (n0 + 1 + 1 + 1 + 1) (n0 + 1 + 1 + 1 + 1 + 1) W0 (by rw [OwnRow.cell (HRS.out _ (List.mem_cons_of_mem _ (List.mem_cons_of_mem _ List.mem_cons_self)))]; rfl) (by rw [OwnRow.cell (HRS.out _ (List.mem_cons_of_mem _ (List.mem_cons_of_mem _ (List.mem_cons_of_mem _ List.mem_cons_self))))]; rfl) _)
    (fun h k => ⟨k.1.trans h.1, k.2.trans h.2⟩) (fun W l o o' hl _ _ _ => ⟨World.putObj_heap_other (by omega), World.putObj_heap_other (by omega)⟩) (Below.refl _ _) (fun _ => rfl)
    (fun (pre : List (Seg A B)) W => LoopI M base g S w [(n0, 72, [.pointer (some ⟨g, 0, none⟩)]), (n0 + 1, 24, [.int .i64 kind, .int .i64 (k : Int), .int .i64 page, .int .i64 count, .int .i64 rights, .int .i64 key, .bool tagged, .int .i64 draw, .int .i64 addr, .int .i64 size, .int .i64 value, .int .i64 tag]), (n0 + 1 + 1 + 1 + 1, 3, [.int .i64 A]), (n0 + 1 + 1 + 1 + 1 + 1, 3, [.int .i64 B])] ((pre.map (·.1)).foldl PS s) (vw S) W ∧ ((OwnRow W (n0 + 1 + 1) 3 [.int .i64 0] ∧ OwnRow W (n0 + 1 + 1 + 1) 3 [.int .i64 0]) ∧ ∀ x ∈ pre.map (·.1), (PF x).1 = 0))
    (fun c (pre : List (Seg A B)) W => LoopI M base g S w [(n0, 72, [.pointer (some ⟨g, 0, none⟩)]), (n0 + 1, 24, [.int .i64 kind, .int .i64 (k : Int), .int .i64 page, .int .i64 count, .int .i64 rights, .int .i64 key, .bool tagged, .int .i64 draw, .int .i64 addr, .int .i64 size, .int .i64 value, .int .i64 tag]), (n0 + 1 + 1 + 1 + 1, 3, [.int .i64 A]), (n0 + 1 + 1 + 1 + 1 + 1, 3, [.int .i64 B])] ((pre.map (·.1)).foldl PS s) (vw S) W ∧ (c = .ret ∧ ∃ (l : List (Nat × Nat)) (x : Nat × Nat), pre.map (·.1) = l ++ [x] ∧ (∀ y ∈ l, (PF y).1 = 0) ∧ (PF x).1 ≠ 0 ∧ OwnRow W (n0 + 1 + 1) 3 [.int .i64 (PF x).1] ∧ OwnRow W (n0 + 1 + 1 + 1) 3 [.int .i64 (PF x).2]))
    (OwnFrom.and (LoopI.own (fun (pre : List (Seg A B)) => (pre.map (·.1)).foldl PS s) (fun _ => vw S) (by have := HN.out; omega)) (fun pre A' B' row hh hg hr => ⟨⟨rowG hg (fun r e => (hr r e).2) hh.1.1, rowG hg (fun r e => (hr r e).2) hh.1.2⟩, hh.2⟩))
    (fun c => OwnFrom.and (LoopI.own (fun (pre : List (Seg A B)) => (pre.map (·.1)).foldl PS s) (fun _ => vw S) (by have := HN.out; omega)) (fun pre A' B' row hh hg hr => by
      obtain ⟨hc, l, x, e1, e2, e3, e4, e5⟩ := hh
      exact ⟨hc, l, x, e1, e2, e3, rowG hg (fun r e => (hr r e).2) e4, rowG hg (fun r e => (hr r e).2) e5⟩))
    ⟨⟨hwm.wok, hwm.ok, hwm.rel, MKg.of_below hbel, HRS.out⟩, ⟨hb1, hb2⟩, fun x hx => by cases hx⟩
    (fun x => { tmps := #[.pointer (some ⟨g, 0, none⟩), opV { kind := kind, proc := k, page := page, count := count, rights := rights, key := key, tagged := tagged, draw := draw, addr := addr, size := size, value := value, tag := tag }, .int .i64 A, .int .i64 B, .pointer (some ⟨n0, 0, none⟩), .pointer (some ⟨n0 + 1, 0, none⟩), undef, undef, .pointer (some ⟨n0 + 1 + 1, 0, none⟩), .pointer (some ⟨n0 + 1 + 1 + 1, 0, none⟩), .int .i64 (x.1.1 : Int), .int .i64 (x.1.2 : Int), undef, undef, .int .i64 A, .int .i64 B,
      .func (.func 72) #[] #[.pointer (some ⟨n0 + 1 + 1 + 1 + 1, 0, none⟩), .pointer (some ⟨n0 + 1 + 1 + 1 + 1 + 1, 0, none⟩)], .int .i64 (x.1.1 : Int), .int .i64 (x.1.2 : Int), undef, undef, undef, undef, undef, undef, undef, undef, undef, undef, undef, undef], defers := [] }) ?assign ?body ?done ?stop
  case assign =>
    intro l x W K hK
    unfold encG
    gi_wp2_with (rw [Oper.semAt_eq _ _ _ (fun c h => by cases h)]; go_simp; try go_bits)
    exact hK
  case body =>
    rintro l pre x W ⟨hI, ⟨hv1, hv2⟩, hz⟩ _
    have hr0 := hI.rows _ List.mem_cons_self
    have hr1 := hI.rows _ (List.mem_cons_of_mem _ List.mem_cons_self)
    have hcp : W.cell? ⟨n0, 0, none⟩ = some (.pointer (some ⟨g, 0, none⟩)) := by rw [OwnRow.cell hr0]; rfl
    obtain ⟨⟨b0, b1, b2, b3, b4, b5⟩, b6, b7, b8, b9, b10, b11⟩ := OwnRow.twelve hr1
    clear hr0 hr1
    have HMM : Hid (Calls Try.prog 55 #[.pointer (some ⟨g, 0, none⟩), opV { kind := kind, proc := k, page := page, count := count, rights := rights, key := key, tagged := tagged, draw := draw, addr := addr, size := size, value := value, tag := tag }, .int .i64 (x.1.1 : Int), .int .i64 (x.1.2 : Int)] W fun e' w' => e' = .returned (.tuple #[.int .i64 (PF x.1).1, .int .i64 (PF x.1).2]) ∧ LoopI M base g S w [(n0, 72, [.pointer (some ⟨g, 0, none⟩)]), (n0 + 1, 24, [.int .i64 kind, .int .i64 (k : Int), .int .i64 page, .int .i64 count, .int .i64 rights, .int .i64 key, .bool tagged, .int .i64 draw, .int .i64 addr, .int .i64 size, .int .i64 value, .int .i64 tag]), (n0 + 1 + 1 + 1 + 1, 3, [.int .i64 A]), (n0 + 1 + 1 + 1 + 1 + 1, 3, [.int .i64 B])] (((pre ++ [x]).map (·.1)).foldl PS s) (vw S) w' ∧ KeepsOthers W w' ∧ (∀ r ∈ ([(n0, 72, [.pointer (some ⟨g, 0, none⟩)]), (n0 + 1, 24, [.int .i64 kind, .int .i64 (k : Int), .int .i64 page, .int .i64 count, .int .i64 rights, .int .i64 key, .bool tagged, .int .i64 draw, .int .i64 addr, .int .i64 size, .int .i64 value, .int .i64 tag]), (n0 + 1 + 1 + 1 + 1, 3, [.int .i64 A]), (n0 + 1 + 1 + 1 + 1 + 1, 3, [.int .i64 B])] : List (Nat × TypeId × List Value)), w'.heap[r.1]? = W.heap[r.1]?) ∧ OwnRow w' (n0 + 1 + 1) 3 [.int .i64 0] ∧ OwnRow w' (n0 + 1 + 1 + 1) 3 [.int .i64 0]) := by
      refine (HPF2.out x W _ ⟨hI.wok, hI.ok, hI.rel⟩).mono ?_
      rintro e' w' ⟨he, hm, hmk⟩
      obtain ⟨s1, s2, s3⟩ := hI.stepG HRG.out hm hmk
      refine ⟨he, ?_, s2, s3, hmk.row hv1 (by omega) M.hwr.2.2.2.2.1, hmk.row hv2 (by omega) M.hwr.2.2.2.2.1⟩
      rw [List.map_append, List.foldl_append]
      exact s1
    have HZZ : Hid (∀ y ∈ pre.map (·.1), (PF y).1 = 0) := hz
    clear hI hv1 hv2 hz
    obtain ⟨P1, hP1⟩ : ∃ P1, P1 = (PF x.1).1 := ⟨_, rfl⟩
    obtain ⟨P2, hP2⟩ : ∃ P2, P2 = (PF x.1).2 := ⟨_, rfl⟩
    rw [← hP1, ← hP2] at HMM
    have HP : Hid (P1 = (PF x.1).1 ∧ P2 = (PF x.1).2) := ⟨hP1, hP2⟩
    clear hP1 hP2
    by_cases h0 : P1 = 0
    · subst h0
      gi_wp2_with (first | (rw [Oper.semAt_eq _ _ _ (fun c h => by cases h)]; go_simp; try go_bits) | (refine ⟨trivial, ?_⟩; gi_at_call 55; refine (CallsIn.inRound l (callsIn_wide.2 HMM.out)).mono ?_; rintro e w2 ⟨rfl, hI4, hko, hsm, hv1, hv2⟩))
      exact ⟨hko, ⟨hsm _ (List.mem_cons_of_mem _ (List.mem_cons_of_mem _ List.mem_cons_self)), hsm _ (List.mem_cons_of_mem _ (List.mem_cons_of_mem _ (List.mem_cons_of_mem _ List.mem_cons_self)))⟩, hI4, ⟨hv1, hv2⟩, by
        rw [List.map_append]
        intro y hy
        rcases List.mem_append.1 hy with hy | hy
        · exact HZZ.out y hy
        · rw [List.mem_singleton.1 hy]; exact HP.out.1.symm⟩
    · have hd : (P1 != 0) = true := by simpa using h0
      gi_wp2_with (first | (rw [Oper.semAt_eq _ _ _ (fun c h => by cases h)]; go_simp; try go_bits) | (refine ⟨trivial, ?_⟩; gi_at_call 55; refine (CallsIn.inRound l (callsIn_wide.2 HMM.out)).mono ?_; rintro e w2 ⟨rfl, hI4, hko, hsm, hv1, hv2⟩; have hc1 : w2.cell? ⟨n0 + 1 + 1, 0, none⟩ = some (.int .i64 0) := (by rw [OwnRow.cell hv1]; rfl); have hc2 : w2.cell? ⟨n0 + 1 + 1 + 1, 0, none⟩ = some (.int .i64 0) := (by rw [OwnRow.cell hv2]; rfl); have hf1 : w2.frozen? ⟨n0 + 1 + 1, 0, none⟩ = false := OwnRow.free hv1 0; have hf2 : w2.frozen? ⟨n0 + 1 + 1 + 1, 0, none⟩ = false := OwnRow.free hv2 0))
      obtain ⟨hI5, hv5⟩ := hI4.poke hv1 (by have := HN.out; omega) (HRV.out _ (Or.inl rfl)) (.int .i64 P1)
      have hv2' : OwnRow (w2.setCell ⟨n0 + 1 + 1, 0, none⟩ (.int .i64 P1)) (n0 + 1 + 1 + 1) 3 [.int .i64 0] := OwnRow.of_block hv2 (Below.heap_setCell w2 ⟨n0 + 1 + 1, 0, none⟩ _ _ (by show n0 + 1 + 1 + 1 ≠ n0 + 1 + 1; omega))
      obtain ⟨hI6, hv6⟩ := hI5.poke hv2' (by have := HN.out; omega) (HRV.out _ (Or.inr rfl)) (.int .i64 P2)
      have hv7 := OwnRow.of_block hv5 (Below.heap_setCell (w2.setCell ⟨n0 + 1 + 1, 0, none⟩ (.int .i64 P1)) ⟨n0 + 1 + 1 + 1, 0, none⟩ (.int .i64 P2) _ (by show n0 + 1 + 1 ≠ n0 + 1 + 1 + 1; omega))
      refine ⟨(hko.trans (KeepsOthers.setCell _ _ _)).trans (KeepsOthers.setCell _ _ _), hI6, rfl, pre.map (·.1), x.1, by rw [List.map_append]; rfl, HZZ.out, by rw [← HP.out.1]; exact h0, by rw [← HP.out.1]; exact hv7, by rw [← HP.out.2]; exact hv6⟩
  case done =>
    rintro D xs W hD hxs ⟨hI, ⟨hv1, hv2⟩, hz⟩ hK
    obtain ⟨hX, hZ⟩ := HAL.out _ hxs hz
    rw [← hZ] at hI
    clear hz hxs hZ
    have hc1 : W.cell? ⟨n0 + 1 + 1, 0, none⟩ = some (.int .i64 0) := by rw [OwnRow.cell hv1]; rfl
    have hc2 : W.cell? ⟨n0 + 1 + 1 + 1, 0, none⟩ = some (.int .i64 0) := by rw [OwnRow.cell hv2]; rfl
    have hf1 : W.frozen? ⟨n0 + 1 + 1, 0, none⟩ = false := OwnRow.free hv1 0
    have hf2 : W.frozen? ⟨n0 + 1 + 1 + 1, 0, none⟩ = false := OwnRow.free hv2 0
    subst hX
    gi_wp2
    obtain ⟨hI5, hv5⟩ := hI.poke hv1 (by have := HN.out; omega) (HRV.out _ (Or.inl rfl)) (.int .i64 0)
    have hv2' : OwnRow (W.setCell ⟨n0 + 1 + 1, 0, none⟩ (.int .i64 0)) (n0 + 1 + 1 + 1) 3 [.int .i64 0] := OwnRow.of_block hv2 (Below.heap_setCell W ⟨n0 + 1 + 1, 0, none⟩ _ _ (by show n0 + 1 + 1 + 1 ≠ n0 + 1 + 1; omega))
    obtain ⟨hI6, hv6⟩ := hI5.poke hv2' (by have := HN.out; omega) (HRV.out _ (Or.inr rfl)) (.int .i64 0)
    have hv7 := OwnRow.of_block hv5 (Below.heap_setCell (W.setCell ⟨n0 + 1 + 1, 0, none⟩ (.int .i64 0)) ⟨n0 + 1 + 1 + 1, 0, none⟩ (.int .i64 0) _ (by show n0 + 1 + 1 ≠ n0 + 1 + 1 + 1; omega))
    have hK' := ((KeepsOthers.setCell W ⟨n0 + 1 + 1, 0, none⟩ (.int .i64 0)).trans (KeepsOthers.setCell _ ⟨n0 + 1 + 1 + 1, 0, none⟩ (.int .i64 0))).same D _ hK rfl
    generalize (W.setCell ⟨n0 + 1 + 1, 0, none⟩ (.int .i64 0)).setCell ⟨n0 + 1 + 1 + 1, 0, none⟩ (.int .i64 0) = W9 at hI6 hv6 hv7 hK' ⊢
    have hI7 := (LoopI.own (B0 := W0.heap.size) (α := Unit) (fun _ => Z) (fun _ => vw S) (by have := HN.out; omega)) () _ _ (some D) hI6 (grownBy_putObj' W9 D (.deferred none)) (fun r e => by cases e; exact ⟨hD, _, hK', rfl⟩)
    have hr1 := rowG (grownBy_putObj' W9 D (.deferred none)) (fun r e => by cases e; exact ⟨_, hK', rfl⟩) hv7
    have hr2 := rowG (grownBy_putObj' W9 D (.deferred none)) (fun r e => by cases e; exact ⟨_, hK', rfl⟩) hv6
    have hc5 : (W9.putObj D (.deferred none)).cell? ⟨n0 + 1 + 1, 0, none⟩ = some (.int .i64 0) := by rw [OwnRow.cell hr1]; rfl
    have hc6 : (W9.putObj D (.deferred none)).cell? ⟨n0 + 1 + 1 + 1, 0, none⟩ = some (.int .i64 0) := by rw [OwnRow.cell hr2]; rfl
    refine ⟨by simp, .inl ⟨_, _, rfl, run_takeDeferred hK', ?_⟩⟩
    refine ⟨.tuple #[.int .i64 0, .int .i64 0], ?_, rfl, ⟨hI7.wok, hI7.ok, hI7.rel⟩, hI7.keep⟩
    simp [results, Try.results42, go_sem, hc5, hc6]
  case stop =>
    rintro D c pre W hD hpre ⟨hI, rfl, l, x, e1, e2, e3, e4, e5⟩ hK
    obtain ⟨hX, hZ⟩ := HAT.out l x (by rw [← e1]; exact hpre) e2 e3
    rw [e1, ← hZ] at hI
    rw [← hX] at e4 e5
    clear hpre hZ
    obtain ⟨W9, rfl⟩ : ∃ W9, W9 = W := ⟨_, rfl⟩
    have hI6 := hI
    have hv7 := e4
    have hv6 := e5
    have hK' := hK
    clear e1 e2 e3 e4 e5 hI
    gi_wp2
    have hI7 := (LoopI.own (B0 := W0.heap.size) (α := Unit) (fun _ => Z) (fun _ => vw S) (by have := HN.out; omega)) () _ _ (some D) hI6 (grownBy_putObj' W9 D (.deferred none)) (fun r e => by cases e; exact ⟨hD, _, hK', rfl⟩)
    have hr1 := rowG (grownBy_putObj' W9 D (.deferred none)) (fun r e => by cases e; exact ⟨_, hK', rfl⟩) hv7
    have hr2 := rowG (grownBy_putObj' W9 D (.deferred none)) (fun r e => by cases e; exact ⟨_, hK', rfl⟩) hv6
    have hc5 : (W9.putObj D (.deferred none)).cell? ⟨n0 + 1 + 1, 0, none⟩ = some (.int .i64 X.1) := by rw [OwnRow.cell hr1]; rfl
    have hc6 : (W9.putObj D (.deferred none)).cell? ⟨n0 + 1 + 1 + 1, 0, none⟩ = some (.int .i64 X.2) := by rw [OwnRow.cell hr2]; rfl
    refine ⟨by simp, .inl ⟨_, _, rfl, run_takeDeferred hK', ?_⟩⟩
    refine ⟨.tuple #[.int .i64 X.1, .int .i64 X.2], ?_, rfl, ⟨hI7.wok, hI7.ok, hI7.rel⟩, hI7.keep⟩
    simp [results, Try.results42, go_sem, hc5, hc6]

end Go.Proofs.Ytbiipnojhjhejaa

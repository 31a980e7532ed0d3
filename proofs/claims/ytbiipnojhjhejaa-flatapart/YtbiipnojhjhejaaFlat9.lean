/- The contract of flat.world.pageFault: the fault of a page. -/
import Derived.Test.YtbiipnojhjhejaaFlat8
import Derived.Test.YtbiipnojhjhejaaJFmem
namespace Go.Proofs.Ytbiipnojhjhejaa
set_option maxRecDepth 100000
open Go.RowKit
set_option linter.unusedSimpArgs false
set_option linter.unusedVariables false

theorem wf_small {x : Int} (h0 : 0 ≤ x) (h1 : x ≤ 15) : (Lit.int .i64 x).wf = true := by
  have : x = 0 ∨ x = 1 ∨ x = 2 ∨ x = 3 ∨ x = 4 ∨ x = 5 ∨ x = 6 ∨ x = 7 ∨ x = 8 ∨ x = 9 ∨ x = 10 ∨ x = 11 ∨ x = 12 ∨ x = 13 ∨ x = 14 ∨ x = 15 := by omega
  rcases this with rfl | rfl | rfl | rfl | rfl | rfl | rfl | rfl | rfl | rfl | rfl | rfl | rfl | rfl | rfl | rfl <;> decide

theorem bound_le (f t : Nat) (hft : f < t) (ht : t ≤ 4096) : f / 16 + ((t - 1) / 16 + 1 - f / 16) ≤ 256 ∧ 0 < (t - 1) / 16 + 1 - f / 16 := by
  have q1 : f / 16 ≤ (t - 1) / 16 := Nat.div_le_div_right (by omega)
  have q2 : (t - 1) / 16 < 256 := by clear q1; omega
  generalize f / 16 = a at *
  generalize (t - 1) / 16 = b at *
  omega

theorem bound_eq (f t : Nat) (hft : f < t) (ht : t ≤ 4096) : IntKind.i64.wrap (IntKind.i64.wrap ((IntKind.i64.wrap ((t : Int) - 1)).tdiv 16) + 1) = ((f / 16 + ((t - 1) / 16 + 1 - f / 16) : Nat) : Int) := by
  have q1 : f / 16 ≤ (t - 1) / 16 := Nat.div_le_div_right (by omega)
  have q2 : (t - 1) / 16 < 256 := by clear q1; omega
  have q3 : IntKind.i64.wrap ((t : Int) - 1) = ((t - 1 : Nat) : Int) := by clear q1 q2; rw [IntKind.wrap_i64]; omega
  have q4 : ((t - 1 : Nat) : Int).tdiv 16 = (((t - 1) / 16 : Nat) : Int) := by rw [Int.tdiv_eq_ediv_of_nonneg (by omega)]; rfl
  rw [q3, q4]
  clear q3 q4
  generalize f / 16 = a at *
  generalize (t - 1) / 16 = b at *
  have q5 : IntKind.i64.wrap (b : Int) = b := by rw [IntKind.wrap_i64]; omega
  rw [q5, IntKind.wrap_i64]
  omega

theorem tgs_len (p : Pr) (f n : Nat) : (tgs p f n).length = n := by simp [tgs]

theorem tgs_get (p : Pr) (f n i : Nat) (hi : i < n) : (tgs p f n).getD i 0 = p.T (f + i) := by
  unfold tgs
  rw [List.getD_eq_getElem?_getD, List.getElem?_map, List.getElem?_range hi]
  rfl

theorem tgK_bd (T : Bool) (y : Int) (zs : List Int) (t : Int) : 0 ≤ tgK T y zs t ∧ tgK T y zs t ≤ zs.length := by
  unfold tgK
  have := fu_le zs t
  split <;> omega

theorem OwnRow.att {w b : World} {B : Nat} {u v u' v' : Value} (h : OwnRow w B 48 [u, v, u', v']) (hb : Below w.heap.size w b) :
    b.cell? ⟨B, 0, none⟩ = some u ∧ b.cell? ⟨B, 1, none⟩ = some v ∧ b.cell? ⟨B, 2, none⟩ = some u' ∧ b.cell? ⟨B, 3, none⟩ = some v' := by
  have ho := h.below hb h.lt
  exact ⟨by rw [ho.cell]; rfl, by rw [ho.cell]; rfl, by rw [ho.cell]; rfl, by rw [ho.cell]; rfl⟩


/-- What memory is, behind a look at a page's rights and tags. -/
def pflS {σ : Type} (M : Mem σ) (S : W4) (s : σ) (k : Nat) (o : O12) (f t : Nat) : σ :=
  match atR (S k).L ((f / 64 : Nat) : Int) with
  | none => s
  | some a => if pgA a (S k).K (wayK o.kind) = 0 then if o.kind = 13 then s else M.sTags s k (f / 16) ((t - 1) / 16 + 1 - f / 16) else s

theorem gran_page (f t : Nat) (hft : f < t) (hpg : t ≤ (f / 64 + 1) * 64) : f / 16 % 4 + ((t - 1) / 16 + 1 - f / 16) ≤ 4 ∧ 1 ≤ (t - 1) / 16 + 1 - f / 16 ∧ f / 16 / 4 = f / 64 ∧ (t - 1) / 16 + 1 - f / 16 = (t - 1) / 16 - f / 16 + 1 ∧ f / 16 ≤ (t - 1) / 16 ∧ ∀ i, i < (t - 1) / 16 + 1 - f / 16 → (f / 16 + i) / 4 = f / 64 := by
  have e : f / 16 / 4 = f / 64 := by rw [Nat.div_div_eq_div_mul]
  have q1 : f / 16 ≤ (t - 1) / 16 := Nat.div_le_div_right (by omega)
  have q2 : (t - 1) / 16 < (f / 64 + 1) * 4 := by omega
  have q3 : f / 64 * 4 ≤ f / 16 := by omega
  clear hft hpg
  generalize f / 16 = a at *
  generalize (t - 1) / 16 = b at *
  generalize f / 64 = c at *
  refine ⟨by omega, by omega, e, by omega, q1, fun i hi => by omega⟩

set_option maxHeartbeats 3200000 in
theorem pageFault_any {σ : Type} (M : Mem σ) (base g : Nat) (S : W4) (ms : σ) (k : Nat) (hk : k < 4) (hlk : (S k).live = true) (o : O12) (hp : o.proc = k) (f t : Nat) (hft : f < t) (hpg : t ≤ (f / 64 + 1) * 64) (ht : t ≤ 4096) (w : World) (h : WM M base g w S ms) (hi : Inv S) :
    Calls Try.prog 55 #[.pointer (some ⟨g, 0, none⟩), opV o, .int .i64 f, .int .i64 t] w fun e w' => e = .returned (.tuple #[.int .i64 (pfl (S k) o f t).1, .int .i64 (pfl (S k) o f t).2]) ∧ WM M base g w' S (pflS M S ms k o f t) ∧ MKg M g w w' := by
  have HM : Hid (∀ w1, Below w.heap.size w w1 → WM M base g w1 S ms) := fun w1 hb => h.below hb
  have HI : Hid (Inv S ∧ (S k).live = true) := ⟨hi, hlk⟩
  obtain ⟨a, cap, h1, h2, -⟩ := h.wok.recs hi hk
  have HKC : Hid _ := h.wok.keys hk
  have HCM : Hid _ := h.wok.mem
  have hg := h.wok.glt
  -- numbers
  obtain ⟨P, hP⟩ : ∃ P, P = f / 64 := ⟨_, rfl⟩
  obtain ⟨G, hG⟩ : ∃ G, G = f / 16 := ⟨_, rfl⟩
  obtain ⟨H, hH⟩ : ∃ H, H = (t - 1) / 16 + 1 - f / 16 := ⟨_, rfl⟩
  have e1 : wrap64 ((f : Int) / 64) = (P : Int) := by clear hpg hG hH; unfold wrap64; omega
  have HGP : Hid (G % 4 + H ≤ 4 ∧ 1 ≤ H ∧ G / 4 = P ∧ H = (t - 1) / 16 - G + 1 ∧ G ≤ (t - 1) / 16 ∧ ∀ i, i < H → (G + i) / 4 = P) := by show _; rw [hG, hH, hP]; exact gran_page f t hft hpg
  have E2 : Hid (wrap64 ((f : Int) / 16) = (G : Int)) := by clear hpg hP hH HGP; show _ = _; unfold wrap64; omega
  have E3 : Hid (wrap64 ((wrap64 ((t : Int) - 1)).tdiv 16) = (((t - 1) / 16 : Nat) : Int)) := by clear hpg hP hH hG HGP E2; show _ = _; rw [show wrap64 ((t : Int) - 1) = ((t - 1 : Nat) : Int) by unfold wrap64; omega, Int.tdiv_eq_ediv_of_nonneg (by omega)]; unfold wrap64; omega
  have HGH : Hid (G + H ≤ 256 ∧ 0 < H) := by show _ ∧ _; rw [hG, hH]; exact bound_le f t hft ht
  have HP : Hid (pfl (S k) o f t = match atR (S k).L (P : Int) with
    | none => (1, (f : Int))
    | some a => if pgA a (S k).K (wayK o.kind) = 0 then if o.kind = 13 then if a.2.2.1 then (0, 0) else (4, (f : Int))
        else if tgF a.2.2.1 (wayK o.kind) (tgs (S k) G H) o.tag = 0 then (0, 0) else (tgF a.2.2.1 (wayK o.kind) (tgs (S k) G H) o.tag, max (f : Int) (((G : Int) + tgK a.2.2.1 (wayK o.kind) (tgs (S k) G H) o.tag) * 16))
      else (pgA a (S k).K (wayK o.kind), (f : Int))) := by
    show _ = _
    rw [hP, hH, hG]
    rfl
  have HS : Hid (pflS M S ms k o f t = match atR (S k).L (P : Int) with
    | none => ms
    | some a => if pgA a (S k).K (wayK o.kind) = 0 then if o.kind = 13 then ms else M.sTags ms k G H else ms) := by
    show _ = _
    rw [hP, hH, hG]
    rfl
  -- memory's tags are those of the process, where there is a page
  have HTA : Hid ((atR (S k).L (P : Int)).isSome = true → ∀ w1, Below w.heap.size w w1 → M.R (M.sTags ms k G H) (vw S) ∧ Calls Try.prog M.fTags #[.pointer (some M.pm), .int .i64 k, .int .i64 G, .int .i64 H] w1 fun e w' => ∃ a c, e = .returned (.slice a H c) ∧ IsInts w' (.slice a H c) (tgs (S k) G H) ∧ M.ok w' (M.sTags ms k G H) ∧ MK M.lo M.wr w1 w') := fun hs w1 hb => by
    obtain ⟨g1, g2, g3, g4, g5, g6⟩ := HGP.out
    have hh := HGH.out
    have hm := HM.out w1 hb
    have := M.tags (k := k) (f := G) (n := H) hm.ok hm.rel (vw_good hi) hk (by simp [vw, hk, hlk]) (by omega) g2 g1 (by simp only [vw, hk, g3, hs]; rfl)
    rw [show tgV (vw S) k G H = tgs (S k) G H from List.map_congr_left (fun i hi' => by
      simp only [vw]
      rw [g6 i (List.mem_range.1 hi'), if_pos ⟨hk, hs⟩])] at this
    exact this
  have HZL : Hid ((tgs (S k) G H).length = H) := tgs_len _ _ _
  have HF : Hid (∀ w1 v, v = .slice a (S k).L.length cap → Below w.heap.size w w1 → Calls Try.prog 18 #[v, .int .i64 (P : Int)] w1 fun e w' => e = .returned (attO (atR (S k).L (P : Int))) ∧ Below w1.heap.size w1 w') := fun w1 v hv hb => hv ▸ find_any _ _ P 64 w1 (h2.below hb) (by decide)
  have HY : Hid (∀ w1, Calls Try.prog 73 #[.int .i64 o.kind] w1 fun e w' => e = .returned (.int .i64 (wayK o.kind)) ∧ w1 = w') := fun w1 => wayOf_any o.kind w1
  have HPG : Hid (∀ w1 (a : A4), Calls Try.prog 74 #[.agg #[.int .i64 a.1, .int .i64 a.2.1, .bool a.2.2.1, .bool a.2.2.2], kv (S k).K, .int .i64 (wayK o.kind)] w1 fun e w' => e = .returned (.int .i64 (pgA a (S k).K (wayK o.kind))) ∧ Below w1.heap.size w1 w') := fun w1 a => page_any _ _ _ _ _ _ _ _ _ _ _ _ _ w1
  generalize pfl (S k) o f t = X at *
  generalize pflS M S ms k o f t = XS at *
  generalize tgs (S k) G H = Z at *
  have HFT : Hid (f < t ∧ t ≤ 4096) := ⟨hft, ht⟩
  have hcr1 : Hid (w.cell? ⟨g, k * 10 + 1, none⟩ = some (.slice a (S k).L.length cap)) := h1
  clear h h2 hi hpg hP hG hH hft ht hlk h1
  obtain ⟨A, hA⟩ : ∃ A, A = atR (S k).L (P : Int) := ⟨_, rfl⟩
  rw [← hA] at HP HF HS HTA
  clear hA
  generalize (S k).L.length = m at *
  generalize (S k).K = K at *
  generalize wayK o.kind = way at *
  obtain ⟨t0, d0, t1, d1, t2, d2, t3, d3⟩ := K
  obtain ⟨kind, proc, page, count, rights, key, tagged, draw, addr, size, value, tag⟩ := o
  simp only at HP HKC HY HPG HS hp ⊢
  subst hp
  have hbA : Below w.heap.size w (w.alloc (.cells #[.int .i64 kind, .int .i64 (k : Int), .int .i64 page, .int .i64 count, .int .i64 rights, .int .i64 key, .bool tagged, .int .i64 draw, .int .i64 addr, .int .i64 size, .int .i64 value, .int .i64 tag] 24)) := (Below.refl _ _).alloc (Nat.le_refl _) _
  have HC : Hid (∀ w1, Below (w.alloc (.cells #[.int .i64 kind, .int .i64 (k : Int), .int .i64 page, .int .i64 count, .int .i64 rights, .int .i64 key, .bool tagged, .int .i64 draw, .int .i64 addr, .int .i64 size, .int .i64 value, .int .i64 tag] 24)).heap.size (w.alloc (.cells #[.int .i64 kind, .int .i64 (k : Int), .int .i64 page, .int .i64 count, .int .i64 rights, .int .i64 key, .bool tagged, .int .i64 draw, .int .i64 addr, .int .i64 size, .int .i64 value, .int .i64 tag] 24)) w1 → OwnRow w1 w.heap.size 24 [.int .i64 kind, .int .i64 (k : Int), .int .i64 page, .int .i64 count, .int .i64 rights, .int .i64 key, .bool tagged, .int .i64 draw, .int .i64 addr, .int .i64 size, .int .i64 value, .int .i64 tag] ∧ Below w.heap.size w w1 ∧ w.heap.size < w1.heap.size) := fun w1 hb => ⟨box12 hb, hbA.trans (hb.mono hbA.size), (box12 hb).lt⟩
  have HBA : Hid (Below w.heap.size w (w.alloc (.cells #[.int .i64 kind, .int .i64 (k : Int), .int .i64 page, .int .i64 count, .int .i64 rights, .int .i64 key, .bool tagged, .int .i64 draw, .int .i64 addr, .int .i64 size, .int .i64 value, .int .i64 tag] 24))) := hbA
  clear hbA
  have hcr : (w.alloc (.cells #[.int .i64 kind, .int .i64 (k : Int), .int .i64 page, .int .i64 count, .int .i64 rights, .int .i64 key, .bool tagged, .int .i64 draw, .int .i64 addr, .int .i64 size, .int .i64 value, .int .i64 tag] 24)).cell? ⟨g, k * 10 + 1, none⟩ = some (.slice a m cap) := (HBA.out.cell (cell_lt hcr1.out)).trans hcr1.out
  have hglt : g < (w.alloc (.cells #[.int .i64 kind, .int .i64 (k : Int), .int .i64 page, .int .i64 count, .int .i64 rights, .int .i64 key, .bool tagged, .int .i64 draw, .int .i64 addr, .int .i64 size, .int .i64 value, .int .i64 tag] 24)).heap.size := Nat.lt_of_lt_of_le hg HBA.out.size
  have bx1 : (w.alloc (.cells #[.int .i64 kind, .int .i64 (k : Int), .int .i64 page, .int .i64 count, .int .i64 rights, .int .i64 key, .bool tagged, .int .i64 draw, .int .i64 addr, .int .i64 size, .int .i64 value, .int .i64 tag] 24)).cell? ⟨w.heap.size, 1, none⟩ = some (.int .i64 (k : Int)) := (HC.out _ (Below.refl _ _)).1.twelve.1.2.1
  cases A with
  | none =>
    obtain rfl : X = (1, (f : Int)) := HP.out
    obtain rfl : XS = ms := HS.out
    clear HP HPG HS HTA
    go_enter Try.func55, Try.ntmps55
    go_wp2_with fail
    go_quiet (fail)
    go_wp2_with (first | (go_at_call 18; refine (HF.out _ _ rfl (below_drewK HBA.out _)).mono ?_; rintro e w1 ⟨rfl, hb1'⟩; obtain ⟨hbx, hbw, hlt⟩ := HC.out _ ((below_drewK (Below.refl _ (w.alloc (.cells #[.int .i64 kind, .int .i64 (k : Int), .int .i64 page, .int .i64 count, .int .i64 rights, .int .i64 key, .bool tagged, .int .i64 draw, .int .i64 addr, .int .i64 size, .int .i64 value, .int .i64 tag] 24))) _).trans hb1'); clear hbx))
    go_ret2
    exact ⟨rfl, HM.out _ (below_al hbw _), MKg.of_below (below_al hbw _)⟩
  | some A =>
    obtain ⟨r, y, T, s⟩ := A
    simp only at HP HS
    have HPG2 : Hid (∀ w1, Calls Try.prog 74 #[.agg #[.int .i64 r, .int .i64 y, .bool T, .bool s], .agg #[.bool t0, .int .i64 d0, .bool t1, .int .i64 d1, .bool t2, .int .i64 d2, .bool t3, .int .i64 d3], .int .i64 way] w1 fun e w' => e = .returned (.int .i64 (pgA (r, y, T, s) (t0, d0, t1, d1, t2, d2, t3, d3) way)) ∧ Below w1.heap.size w1 w') := fun w1 => HPG.out w1 (r, y, T, s)
    have HTG : Hid (∀ w1 c a, IsInts w1 (.slice a H c) Z → Calls Try.prog 75 #[.agg #[.int .i64 r, .int .i64 y, .bool T, .bool s], .int .i64 way, .slice a H c, .int .i64 tag] w1 fun e w' => e = .returned (.tuple #[.int .i64 (tgF T way Z tag), .int .i64 (tgK T way Z tag)]) ∧ Below w1.heap.size w1 w') := fun w1 c a hz => tags_any r y T s way _ Z tag w1 hz
    have HTA2 : Hid _ := HTA.out (by first | rfl | trivial)
    have HKB : Hid _ := tgK_bd T way Z tag
    generalize pgA (r, y, T, s) (t0, d0, t1, d1, t2, d2, t3, d3) way = PG at *
    generalize tgF T way Z tag = TF at *
    generalize tgK T way Z tag = TK at *
    clear HPG HTA
    go_enter Try.func55, Try.ntmps55
    go_wp2_with fail
    go_quiet (fail)
    go_wp2_with (first | (go_at_call 18; refine (HF.out _ _ rfl (below_drewK HBA.out _)).mono ?_; rintro e w1 ⟨rfl, hb1'⟩; obtain ⟨hbx, hbw, hlt⟩ := HC.out _ ((below_drewK (Below.refl _ (w.alloc (.cells #[.int .i64 kind, .int .i64 (k : Int), .int .i64 page, .int .i64 count, .int .i64 rights, .int .i64 key, .bool tagged, .int .i64 draw, .int .i64 addr, .int .i64 size, .int .i64 value, .int .i64 tag] 24))) _).trans hb1'); obtain ⟨⟨b0, b1, b2, b3, b4, b5⟩, b6, b7, b8, b9, b10, b11⟩ := hbx.twelve) | (go_at_call 73; refine (HY.out _).mono ?_; rintro e w3 ⟨rfl, rfl⟩))
    have hoA : OwnRow (w1.alloc (.cells #[.int .i64 r, .int .i64 y, .bool T, .bool s] 48)) w1.heap.size 48 [.int .i64 r, .int .i64 y, .bool T, .bool s] := heap_alloc_new w1 _
    have hbB : Below w.heap.size w (w1.alloc (.cells #[.int .i64 r, .int .i64 y, .bool T, .bool s] 48)) := below_al hbw _
    have hbx2 := hbx.below ((Below.refl _ _).alloc (Nat.le_refl _) (.cells #[.int .i64 r, .int .i64 y, .bool T, .bool s] 48)) hbx.lt
    clear b0 b1 b2 b3 b4 b5 b6 b7 b8 b9 b10 b11 hbx HC hb1'
    clear bx1 hglt
    generalize (w1.alloc (.cells #[.int .i64 r, .int .i64 y, .bool T, .bool s] 48)) = wB at hoA hbB hbx2 ⊢
    have HRW : Hid (∀ w', Below wB.heap.size wB w' → OwnRow w' w1.heap.size 48 [.int .i64 r, .int .i64 y, .bool T, .bool s] ∧ OwnRow w' w.heap.size 24 [.int .i64 kind, .int .i64 (k : Int), .int .i64 page, .int .i64 count, .int .i64 rights, .int .i64 key, .bool tagged, .int .i64 draw, .int .i64 addr, .int .i64 size, .int .i64 value, .int .i64 tag]) := fun w' hb => ⟨hoA.below hb hoA.lt, hbx2.below hb hbx2.lt⟩
    have HNX : Hid (∀ w', Below wB.heap.size wB w' → w'.cell? ⟨w1.heap.size, 0, none⟩ = some (.int .i64 r) ∧ w'.cell? ⟨w1.heap.size, 1, none⟩ = some (.int .i64 y) ∧ w'.cell? ⟨w1.heap.size, 2, none⟩ = some (.bool T) ∧ w'.cell? ⟨w1.heap.size, 3, none⟩ = some (.bool s) ∧ w'.cell? ⟨g, k * 10 + 2, none⟩ = some (.bool t0) ∧ w'.cell? ⟨g, k * 10 + 2 + 1, none⟩ = some (.int .i64 d0) ∧ w'.cell? ⟨g, k * 10 + 2 + 2, none⟩ = some (.bool t1) ∧ w'.cell? ⟨g, k * 10 + 2 + 3, none⟩ = some (.int .i64 d1) ∧ w'.cell? ⟨g, k * 10 + 2 + 4, none⟩ = some (.bool t2) ∧ w'.cell? ⟨g, k * 10 + 2 + 5, none⟩ = some (.int .i64 d2) ∧ w'.cell? ⟨g, k * 10 + 2 + 6, none⟩ = some (.bool t3) ∧ w'.cell? ⟨g, k * 10 + 2 + 7, none⟩ = some (.int .i64 d3) ∧ w'.cell? ⟨w.heap.size, 0, none⟩ = some (.int .i64 kind) ∧ w'.cell? ⟨w.heap.size, 11, none⟩ = some (.int .i64 tag) ∧ w'.cell? ⟨w.heap.size, 1, none⟩ = some (.int .i64 (k : Int)) ∧ w'.cell? ⟨g, 40, none⟩ = some (.iface M.mty (.pointer (some M.pm))) ∧ Below wB.heap.size wB w') := fun w' hb => by
      obtain ⟨⟨c0, c1, c2, c3⟩, c4, c5, c6, c7⟩ := HKC.out
      have hbw' := hbB.trans (hb.mono hbB.size)
      have go : ∀ {A : Addr} {v : Value}, w.cell? A = some v → w'.cell? A = some v := fun hc => (hbw'.cell (cell_lt hc)).trans hc
      obtain ⟨u0, u1, u2, u3⟩ := hoA.att hb
      have ho := hbx2.below hb hbx2.lt
      exact ⟨u0, u1, u2, u3, go c0, go c1, go c2, go c3, go c4, go c5, go c6, go c7, by rw [ho.cell]; rfl, by rw [ho.cell]; rfl, by rw [ho.cell]; rfl, go HCM.out, hb⟩
    have hltB : w1.heap.size < wB.heap.size := hoA.lt
    have HBB : Hid (Below w.heap.size w wB) := hbB
    clear hbB hoA hbx2 HKC HF HY hbw hcr
    refine wp_region_noPanic ?_
    refine wp_region_held_drew (S := (fun w' => w'.cell? ⟨w1.heap.size, 0, none⟩ = some (.int .i64 r) ∧ w'.cell? ⟨w1.heap.size, 1, none⟩ = some (.int .i64 y) ∧ w'.cell? ⟨w1.heap.size, 2, none⟩ = some (.bool T) ∧ w'.cell? ⟨w1.heap.size, 3, none⟩ = some (.bool s) ∧ w'.cell? ⟨g, k * 10 + 2, none⟩ = some (.bool t0) ∧ w'.cell? ⟨g, k * 10 + 2 + 1, none⟩ = some (.int .i64 d0) ∧ w'.cell? ⟨g, k * 10 + 2 + 2, none⟩ = some (.bool t1) ∧ w'.cell? ⟨g, k * 10 + 2 + 3, none⟩ = some (.int .i64 d1) ∧ w'.cell? ⟨g, k * 10 + 2 + 4, none⟩ = some (.bool t2) ∧ w'.cell? ⟨g, k * 10 + 2 + 5, none⟩ = some (.int .i64 d2) ∧ w'.cell? ⟨g, k * 10 + 2 + 6, none⟩ = some (.bool t3) ∧ w'.cell? ⟨g, k * 10 + 2 + 7, none⟩ = some (.int .i64 d3) ∧ w'.cell? ⟨w.heap.size, 0, none⟩ = some (.int .i64 kind) ∧ w'.cell? ⟨w.heap.size, 11, none⟩ = some (.int .i64 tag) ∧ w'.cell? ⟨w.heap.size, 1, none⟩ = some (.int .i64 (k : Int)) ∧ w'.cell? ⟨g, 40, none⟩ = some (.iface M.mty (.pointer (some M.pm))) ∧ Below wB.heap.size wB w')) (by kernel_rfl) (by exact HNX.out _ (Below.refl _ _).drew) (fun hHeld => ?_)
    refine take_to 0 (some 42) (v := ?_) rfl rfl (by kernel_rfl) (by kernel_rfl) (by kernel_rfl) (fun _ _ _ h => h) (Or.inl ⟨by rfl, ?_⟩) (by assumption) ?_
    rotate_left
    · intro w hSw
      (try dsimp only at hSw)
      go_simp
      with_reducible rfl
    simp only [Act.put, List.setIfInBounds_toArray, List.set_cons_zero, List.set_cons_succ]
    refine take_to 1 (some 43) (v := ?_) rfl rfl (by kernel_rfl) (by kernel_rfl) (by kernel_rfl) (fun _ _ _ h => h) (Or.inl ⟨by rfl, ?_⟩) (by assumption) ?_
    rotate_left
    · intro w hSw
      (try dsimp only at hSw)
      go_simp
      with_reducible rfl
    simp only [Act.put, List.setIfInBounds_toArray, List.set_cons_zero, List.set_cons_succ]
    refine take_to 2 (some 44) (v := ?_) rfl rfl (by kernel_rfl) (by kernel_rfl) (by kernel_rfl) (fun _ _ _ h => h) (Or.inl ⟨by rfl, ?_⟩) (by assumption) ?_
    rotate_left
    · intro w hSw
      (try dsimp only at hSw)
      go_simp
      with_reducible rfl
    simp only [Act.put, List.setIfInBounds_toArray, List.set_cons_zero, List.set_cons_succ]
    refine take_to 3 (some 45) (v := ?_) rfl rfl (by kernel_rfl) (by kernel_rfl) (by kernel_rfl) (fun _ _ _ h => h) (Or.inl ⟨by rfl, ?_⟩) (by assumption) ?_
    rotate_left
    · intro w hSw
      (try dsimp only at hSw)
      go_simp
      with_reducible rfl
    simp only [Act.put, List.setIfInBounds_toArray, List.set_cons_zero, List.set_cons_succ]
    refine take_to 4 (some 46) (v := ?_) rfl rfl (by kernel_rfl) (by kernel_rfl) (by kernel_rfl) (fun _ _ _ h => h) (Or.inl ⟨by rfl, ?_⟩) (by assumption) ?_
    rotate_left
    · intro w hSw
      (try dsimp only at hSw)
      go_simp
      with_reducible rfl
    simp only [Act.put, List.setIfInBounds_toArray, List.set_cons_zero, List.set_cons_succ]
    refine take_to 5 (some 47) (v := ?_) rfl rfl (by kernel_rfl) (by kernel_rfl) (by kernel_rfl) (fun _ _ _ h => h) (Or.inl ⟨by rfl, ?_⟩) (by assumption) ?_
    rotate_left
    · intro w hSw
      (try dsimp only at hSw)
      go_simp
      with_reducible rfl
    simp only [Act.put, List.setIfInBounds_toArray, List.set_cons_zero, List.set_cons_succ]
    refine wpAnyH_ready (rs := [6]) (by kernel_rfl) (by simp) ?_
    refine AllReadyH.cons rfl (fun K hK => ?_) AllReadyH.nil
    go_simp
    refine Calls.mono (HPG2.out _) ?_
    rintro e w2 ⟨rfl, hb2⟩
    have hbB2 : Below wB.heap.size wB w2 := ((Below.refl _ _).drew).trans hb2
    go_wp2_with fail
    refine hK.out _ _ (by exact HNX.out _ hbB2) (fun hHeld => ?_)
    clear hK K
    try simp only [Act.put, List.setIfInBounds_toArray, List.set_cons_zero, List.set_cons_succ]
    refine take_to 7 (some 14) (v := ?_) rfl rfl (by kernel_rfl) (by kernel_rfl) (by kernel_rfl) (fun _ _ _ h => h) (Or.inl ⟨by rfl, ?_⟩) (by assumption) ?_
    rotate_left
    · intro w hSw
      (try dsimp only at hSw)
      go_simp
      with_reducible rfl
    simp only [Act.put, List.setIfInBounds_toArray, List.set_cons_zero, List.set_cons_succ]
    refine wpAnyH_done (by kernel_rfl) ?_ _
    refine NoPanic.normal ?_
    have hbw2 := HBB.out.trans (hbB2.mono HBB.out.size)
    by_cases hPG : PG = 0
    case neg =>
      obtain rfl : X = (PG, (f : Int)) := HP.out.trans (if_neg hPG)
      obtain rfl : XS = ms := HS.out.trans (if_neg hPG)
      have hd : (PG != 0) = true := by simpa using hPG
      clear HP HS
      go_wp2
      go_ret2
      exact ⟨rfl, HM.out _ hbw2, MKg.of_below hbw2⟩
    subst hPG
    have HP2 : Hid (X = if kind = 13 then if T = true then (0, 0) else (4, (f : Int)) else if TF = 0 then (0, 0) else (TF, max (f : Int) (((G : Int) + TK) * 16))) := HP.out.trans (if_pos rfl)
    have HS2 : Hid (XS = if kind = 13 then ms else M.sTags ms k G H) := HS.out.trans (if_pos rfl)
    clear HP HS
    obtain ⟨u0, u1, u2, u3, v0, v1, v2, v3, v4, v5, v6, v7, x0, x11, x1, xm, -⟩ := hHeld
    by_cases hK : kind = 13
    · subst hK
      obtain rfl : XS = ms := HS2.out.trans (if_pos rfl)
      cases T
      · obtain rfl : X = (4, (f : Int)) := HP2.out
        clear HP2 HS2
        go_wp2
        go_ret2
        exact ⟨rfl, HM.out _ hbw2, MKg.of_below hbw2⟩
      · obtain rfl : X = (0, 0) := HP2.out
        clear HP2 HS2
        go_wp2
        go_ret2
        exact ⟨rfl, HM.out _ hbw2, MKg.of_below hbw2⟩
    have hKd : (kind == 13) = false := by simpa using hK
    have HP3 : Hid (X = if TF = 0 then (0, 0) else (TF, max (f : Int) (((G : Int) + TK) * 16))) := HP2.out.trans (if_neg hK)
    obtain rfl : XS = M.sTags ms k G H := HS2.out.trans (if_neg hK)
    clear HP2 HS2 hK
    go_wp2_with fail
    have hm := fun w => (M.hm w).2.2.2.2.2.2.1
    have hcf := fun args w => (M.hf args w).2.2.2.2.2.2.1
    have HTM : Hid (∀ wz x z, x = (G : Int) → z = (H : Int) → Below w2.heap.size w2 wz → Calls Try.prog M.fTags #[.pointer (some M.pm), .int .i64 k, .int .i64 x, .int .i64 z] wz fun e w' => ∃ a c, e = .returned (.slice a H c) ∧ IsInts w' (.slice a H c) Z ∧ WM M base g w' S (M.sTags ms k G H) ∧ MKg M g w w' ∧ OwnRow w' w1.heap.size 48 [.int .i64 r, .int .i64 y, .bool T, .bool s] ∧ OwnRow w' w.heap.size 24 [.int .i64 kind, .int .i64 (k : Int), .int .i64 page, .int .i64 count, .int .i64 rights, .int .i64 key, .bool tagged, .int .i64 draw, .int .i64 addr, .int .i64 size, .int .i64 value, .int .i64 tag]) := fun w1' x z hx hz hb => by
      subst hx; subst hz
      have hb3 := hbB2.trans (hb.mono hbB2.size)
      have hb4 := HBB.out.trans (hb3.mono HBB.out.size)
      obtain ⟨hrel, hc⟩ := HTA2.out w1' hb4
      refine hc.mono ?_
      rintro e w4 ⟨a, c, rfl, hz, hok, hmk⟩
      exact ⟨a, c, rfl, hz, ⟨(HM.out _ hb4).wok.byMK hmk M.hwr.1 M.hwr.2.1, hok, hrel⟩, (MKg.of_below hb4).trans (MKg.of_mk hmk), hmk.row (HRW.out _ hb3).1 M.hwr.2.2.2.2.2.1, hmk.row (HRW.out _ hb3).2 M.hwr.2.2.1⟩
    refine wp_region_noPanic ?_
    refine wp_region_held_drew (S := (fun w' => w'.cell? ⟨w.heap.size, 1, none⟩ = some (.int .i64 (k : Int)) ∧ w'.cell? ⟨g, 40, none⟩ = some (.iface M.mty (.pointer (some M.pm))))) (by kernel_rfl) (by exact ⟨x1, xm⟩) (fun hHeld => ?_)
    refine take_to 0 (some 65) (v := ?_) rfl rfl (by kernel_rfl) (by kernel_rfl) (by kernel_rfl) (fun _ _ _ h => h) (Or.inl ⟨by rfl, ?_⟩) (by assumption) ?_
    rotate_left
    · intro w hSw
      (try dsimp only at hSw)
      go_simp
      with_reducible rfl
    simp only [Act.put, List.setIfInBounds_toArray, List.set_cons_zero, List.set_cons_succ]
    refine take_to 1 (some 66) (v := ?_) rfl rfl (by kernel_rfl) (by kernel_rfl) (by kernel_rfl) (fun _ _ _ h => h) (Or.inl ⟨by rfl, ?_⟩) (by assumption) ?_
    rotate_left
    · intro w hSw
      (try dsimp only at hSw)
      go_simp
      with_reducible rfl
    simp only [Act.put, List.setIfInBounds_toArray, List.set_cons_zero, List.set_cons_succ]
    refine take_to 2 (some 67) (v := ?_) rfl rfl (by kernel_rfl) (by kernel_rfl) (by kernel_rfl) (fun _ _ _ h => h) (Or.inl ⟨by rfl, ?_⟩) (by assumption) ?_
    rotate_left
    · intro w hSw
      (try dsimp only at hSw)
      go_simp
      with_reducible rfl
    simp only [Act.put, List.setIfInBounds_toArray, List.set_cons_zero, List.set_cons_succ]
    refine take_to 3 (some 68) (v := ?_) rfl rfl (by kernel_rfl) (by kernel_rfl) (by kernel_rfl) (fun _ _ _ h => h) (Or.inl ⟨by rfl, ?_⟩) (by assumption) ?_
    rotate_left
    · intro w hSw
      (try dsimp only at hSw)
      go_simp
      with_reducible rfl
    simp only [Act.put, List.setIfInBounds_toArray, List.set_cons_zero, List.set_cons_succ]
    refine take_to 4 (some 69) (v := ?_) rfl rfl (by kernel_rfl) (by kernel_rfl) (by kernel_rfl) (fun _ _ _ h => h) (Or.inl ⟨by rfl, ?_⟩) (by assumption) ?_
    rotate_left
    · intro w hSw
      (try dsimp only at hSw)
      go_simp
      with_reducible rfl
    simp only [Act.put, List.setIfInBounds_toArray, List.set_cons_zero, List.set_cons_succ]
    refine take_to 5 (some 70) (v := ?_) rfl rfl (by kernel_rfl) (by kernel_rfl) (by kernel_rfl) (fun _ _ _ h => h) (Or.inl ⟨by rfl, ?_⟩) (by assumption) ?_
    rotate_left
    · intro w hSw
      (try dsimp only at hSw)
      go_simp
      with_reducible rfl
    simp only [Act.put, List.setIfInBounds_toArray, List.set_cons_zero, List.set_cons_succ]
    refine take_to 6 (some 71) (v := ?_) rfl rfl (by kernel_rfl) (by kernel_rfl) (by kernel_rfl) (fun _ _ _ h => h) (Or.inl ⟨by rfl, ?_⟩) (by assumption) ?_
    rotate_left
    · intro w hSw
      (try dsimp only at hSw)
      go_simp
      with_reducible rfl
    simp only [Act.put, List.setIfInBounds_toArray, List.set_cons_zero, List.set_cons_succ]
    refine take_to 7 (some 72) (v := ?_) rfl rfl (by kernel_rfl) (by kernel_rfl) (by kernel_rfl) (fun _ _ _ h => h) (Or.inl ⟨by rfl, ?_⟩) (by assumption) ?_
    rotate_left
    · intro w hSw
      (try dsimp only at hSw)
      go_simp
      with_reducible rfl
    simp only [Act.put, List.setIfInBounds_toArray, List.set_cons_zero, List.set_cons_succ]
    refine take_to 8 (some 73) (v := ?_) rfl rfl (by kernel_rfl) (by kernel_rfl) (by kernel_rfl) (fun _ _ _ h => h) (Or.inl ⟨by rfl, ?_⟩) (by assumption) ?_
    rotate_left
    · intro w hSw
      (try dsimp only at hSw)
      go_simp
      with_reducible rfl
    simp only [Act.put, List.setIfInBounds_toArray, List.set_cons_zero, List.set_cons_succ]
    refine take_to 9 (some 74) (v := ?_) rfl rfl (by kernel_rfl) (by kernel_rfl) (by kernel_rfl) (fun _ _ _ h => h) (Or.inl ⟨by rfl, ?_⟩) (by assumption) ?_
    rotate_left
    · intro w hSw
      (try dsimp only at hSw)
      go_simp
      with_reducible rfl
    simp only [Act.put, List.setIfInBounds_toArray, List.set_cons_zero, List.set_cons_succ]
    refine take_to 10 (some 75) (v := ?_) rfl rfl (by kernel_rfl) (by kernel_rfl) (by kernel_rfl) (fun _ _ _ h => h) (Or.inl ⟨by rfl, ?_⟩) (by assumption) ?_
    rotate_left
    · intro w hSw
      (try dsimp only at hSw)
      go_simp
      with_reducible rfl
    simp only [Act.put, List.setIfInBounds_toArray, List.set_cons_zero, List.set_cons_succ]
    refine wpAnyH_ready (rs := [11]) (by kernel_rfl) (by simp) ?_
    refine AllReadyH.cons rfl (fun K hK => ?_) AllReadyH.nil
    go_simp
    refine Calls.mono (HTM.out _ _ _ ?ex ?ez (Below.refl _ _).drew) ?_
    case ex => exact E2.out
    case ez =>
      rw [E3.out, E2.out]
      obtain ⟨g1, g2, g3, g4, g5, -⟩ := HGP.out
      have hft := HFT.out
      clear e1
      generalize (t - 1) / 16 = b at *
      rw [IntKind.wrap_i64, IntKind.wrap_i64]
      omega
    rintro e w4 ⟨a2, c2, rfl, hz4, hwm4, hmk4, hra, hro⟩
    go_wp2_with fail
    refine hK.out _ _ (by exact ⟨by rw [hro.cell]; rfl, hwm4.wok.mem⟩) (fun hHeld => ?_)
    clear hK K
    try simp only [Act.put, List.setIfInBounds_toArray, List.set_cons_zero, List.set_cons_succ]
    refine take_to 12 (some 17) (v := ?_) rfl rfl (by kernel_rfl) (by kernel_rfl) (by kernel_rfl) (fun _ _ _ h => h) (Or.inl ⟨by rfl, ?_⟩) (by assumption) ?_
    rotate_left
    · intro w hSw
      (try dsimp only at hSw)
      go_simp
      with_reducible rfl
    simp only [Act.put, List.setIfInBounds_toArray, List.set_cons_zero, List.set_cons_succ]
    refine wpAnyH_done (by kernel_rfl) ?_ _
    refine NoPanic.normal ?_
    have HW4 : Hid (WM M base g w4 S (M.sTags ms k G H) ∧ MKg M g w w4) := ⟨hwm4, hmk4⟩
    obtain ⟨⟨p0, p1, p2, p3, p4, p5⟩, p6, p7, p8, p9, p10, p11⟩ := hro.twelve
    obtain ⟨z0, z1, z2, z3⟩ := hra.att (Below.refl _ _)
    clear u0 u1 u2 u3 v0 v1 v2 v3 v4 v5 v6 v7 x0 x11 x1 xm hwm4 hmk4 hra hro
    by_cases hTF : TF = 0
    · obtain rfl : X = (0, 0) := HP3.out.trans (if_pos hTF)
      subst hTF
      clear HP3
      go_wp2_with (go_at_call 75; refine (HTG.out _ _ _ hz4).mono ?_; rintro e w5 ⟨rfl, hb5⟩)
      go_ret2
      exact ⟨rfl, HW4.out.1.below hb5, HW4.out.2.trans (MKg.of_below hb5)⟩
    · obtain rfl : X = (TF, max (f : Int) (((G : Int) + TK) * 16)) := HP3.out.trans (if_neg hTF)
      have hd : (TF == 0) = false := by simpa using hTF
      have hkb := HKB.out
      have hgh := HGH.out
      have hzl := HZL.out
      have e4 : wrap64 ((G : Int) + TK) = (G : Int) + TK := by unfold wrap64; omega
      have e5 : wrap64 (((G : Int) + TK) * 16) = ((G : Int) + TK) * 16 := by unfold wrap64; omega
      have e2 := E2.out
      clear HP3 hkb hzl hgh
      go_wp2_with (go_at_call 75; refine (HTG.out _ _ _ hz4).mono ?_; rintro e w5 ⟨rfl, hb5⟩)
      go_ret2
      exact ⟨rfl, HW4.out.1.below hb5, HW4.out.2.trans (MKg.of_below hb5)⟩

end Go.Proofs.Ytbiipnojhjhejaa

/- The contract of flat.world.doAll: things done, one behind the other. -/
import Derived.Test.YtbiipnojhjhejaaFlat13
namespace Go.Proofs.Ytbiipnojhjhejaa
set_option maxRecDepth 100000
open Go.RowKit
set_option linter.unusedSimpArgs false
set_option linter.unusedVariables false


/-- What is done, as it stands in memory. -/
def encO (o : O12) : List Value := [.int .i64 o.kind, .int .i64 o.proc, .int .i64 o.page, .int .i64 o.count, .int .i64 o.rights, .int .i64 o.key, .bool o.tagged, .int .i64 o.draw, .int .i64 o.addr, .int .i64 o.size, .int .i64 o.value, .int .i64 o.tag]
def zO : O12 := ⟨0, 0, 0, 0, 0, 0, false, 0, 0, 0, 0, 0⟩

theorem shO : Shape O12 12 encO := ⟨fun _ => rfl, fun x v hv => by
  simp only [encO, List.mem_cons, List.not_mem_nil, or_false] at hv
  rcases hv with rfl | rfl | rfl | rfl | rfl | rfl | rfl | rfl | rfl | rfl | rfl | rfl <;> rfl, by decide⟩

theorem info_op : (Try.prog.info? 24).map (fun i => (i.size, i.bytes)) = some (12, 96) := by kernel_rfl

/-- An answer as it stands in memory. -/
def encA (a : An) : List Value := [.int .i64 a.1, .int .i64 a.2.1, .int .i64 a.2.2.1, .int .i64 a.2.2.2]
def zAn : An := (0, 0, 0, 0)

theorem shA : Shape An 4 encA := ⟨fun _ => rfl, fun x v hv => by
  simp only [encA, List.mem_cons, List.not_mem_nil, or_false] at hv
  rcases hv with rfl | rfl | rfl | rfl <;> rfl, by decide⟩

theorem info_ansv : (Try.prog.info? 40).map (fun i => (i.zero, i.size, i.bytes)) = some (some (.agg #[.int .i64 0, .int .i64 0, .int .i64 0, .int .i64 0]), 4, 32) := by kernel_rfl

/-- The twelve cells of an element, in a later world. -/
theorem cell12 {w wr : World} {b off : Nat} {L : List O12} (hc : ∀ j u, (flatL encO L)[j]? = some u → w.cell? ⟨b, off + j, none⟩ = some u) (hbel : Below w.heap.size w wr) (k : Nat) (hk : k < L.length) {kind proc page count rights key : Int} {tagged : Bool} {draw addr size value tag : Int} (hp : (O12.mk kind proc page count rights key tagged draw addr size value tag) = L.getD k zO) :
    (wr.cell? ⟨b, off + k * 12, none⟩ = some (.int .i64 kind) ∧ wr.cell? ⟨b, off + k * 12 + 1, none⟩ = some (.int .i64 proc) ∧ wr.cell? ⟨b, off + k * 12 + 2, none⟩ = some (.int .i64 page) ∧ wr.cell? ⟨b, off + k * 12 + 3, none⟩ = some (.int .i64 count) ∧
      wr.cell? ⟨b, off + k * 12 + 4, none⟩ = some (.int .i64 rights) ∧ wr.cell? ⟨b, off + k * 12 + 5, none⟩ = some (.int .i64 key)) ∧
    wr.cell? ⟨b, off + k * 12 + 6, none⟩ = some (.bool tagged) ∧ wr.cell? ⟨b, off + k * 12 + 7, none⟩ = some (.int .i64 draw) ∧ wr.cell? ⟨b, off + k * 12 + 8, none⟩ = some (.int .i64 addr) ∧ wr.cell? ⟨b, off + k * 12 + 9, none⟩ = some (.int .i64 size) ∧
      wr.cell? ⟨b, off + k * 12 + 10, none⟩ = some (.int .i64 value) ∧ wr.cell? ⟨b, off + k * 12 + 11, none⟩ = some (.int .i64 tag) := by
  have hcell := fun t u ht hu => recs_cell shO hc zO k t hk ht (u := u) hu
  rw [← hp] at hcell
  have go : ∀ {A : Addr} {v : Value}, w.cell? A = some v → wr.cell? A = some v := fun hc => (hbel.cell (cell_lt hc)).trans hc
  exact ⟨⟨go (hcell 0 _ (by decide) rfl), go (hcell 1 _ (by decide) rfl), go (hcell 2 _ (by decide) rfl), go (hcell 3 _ (by decide) rfl), go (hcell 4 _ (by decide) rfl), go (hcell 5 _ (by decide) rfl)⟩,
    go (hcell 6 _ (by decide) rfl), go (hcell 7 _ (by decide) rfl), go (hcell 8 _ (by decide) rfl), go (hcell 9 _ (by decide) rfl), go (hcell 10 _ (by decide) rfl), go (hcell 11 _ (by decide) rfl)⟩

theorem run14_take (l : List O12) (S : W4) (k : Nat) (hk : k < l.length) : run14 S (l.take (k + 1)) = ((do14 (run14 S (l.take k)).1 (l.getD k zO)).1, (run14 S (l.take k)).2 ++ [(do14 (run14 S (l.take k)).1 (l.getD k zO)).2]) := by
  rw [List.take_add_one, List.getElem?_eq_getElem hk, Option.toList_some, run14_snoc, List.getD_eq_getElem?_getD, List.getElem?_eq_getElem hk, Option.getD_some]

/-- What memory is, behind things done. -/
def runS {σ : Type} (M : Mem σ) : W4 → σ → List O12 → σ
  | _, s, [] => s
  | S, s, o :: r => runS M (do14 S o).1 (doS M S s o) r

theorem runS_append {σ : Type} (M : Mem σ) : ∀ (l m : List O12) (S : W4) (s : σ), runS M S s (l ++ m) = runS M (run14 S l).1 (runS M S s l) m
  | [], m, S, s => rfl
  | o :: r, m, S, s => by rw [List.cons_append, runS, runS_append M r m]; rfl

theorem runS_take {σ : Type} (M : Mem σ) (l : List O12) (S : W4) (s : σ) (k : Nat) (hk : k < l.length) : runS M S s (l.take (k + 1)) = doS M (run14 S (l.take k)).1 (runS M S s (l.take k)) (l.getD k zO) := by
  rw [List.take_add_one, List.getElem?_eq_getElem hk, Option.toList_some, runS_append, List.getD_eq_getElem?_getD, List.getElem?_eq_getElem hk, Option.getD_some]
  rfl

/-- A whole answer is laid into a row. -/
theorem WM.pokes {σ : Type} {M : Mem σ} {base g : Nat} {w : World} {S : W4} {st : σ} {b : Nat} (hb : w.heap.size ≤ b) : ∀ (vs : List Value) (o : Nat) (W : World) (xs : List Value), WM M base g W S st → MKg M g w W → OwnRow W b 40 xs → WM M base g (W.setCells b o vs) S st ∧ MKg M g w (W.setCells b o vs)
  | [], _, _, _, h, hk, _ => ⟨h, hk⟩
  | v :: r, o, W, xs, h, hk, hr => by
    obtain ⟨p1, p2, p3⟩ := WM.poke h hk hr hb o v
    exact WM.pokes hb r (o + 1) (W.setCell ⟨b, o, none⟩ v) _ p1 p2 p3

/-- What holds ahead of the k-th: processes and memory, and what has been answered. -/
structure RunK {σ : Type} (M : Mem σ) (base g sr n : Nat) (s0 : σ) (l : List O12) (w w' : World) (k : Nat) : Prop where
  wm : WM M base g w' (run14 newW (l.take k)).1 (runS M newW s0 (l.take k))
  row : ∃ xs, OwnRow w' sr 40 xs ∧ xs.length = n * 4 ∧ xs.take (k * 4) = flatL encA (run14 newW (l.take k)).2
  keep : MKg M g w w'

/-- One thing done, its answer laid into the list. -/
theorem RunK.next {σ : Type} {M : Mem σ} {base g sr n : Nat} {s0 : σ} {l : List O12} {w w1 w2 : World} {k : Nat} (h : RunK M base g sr n s0 l w w1 k) (hk : k < l.length) (hn : k < n) (h1 : WM M base g w2 (do14 (run14 newW (l.take k)).1 (l.getD k zO)).1 (doS M (run14 newW (l.take k)).1 (runS M newW s0 (l.take k)) (l.getD k zO))) (hs : MKg M g w1 w2)
    (hsg : sr ≠ g) (hws : w.heap.size ≤ sr) : RunK M base g sr n s0 l w (w2.setCells sr (k * 4) (encA (do14 (run14 newW (l.take k)).1 (l.getD k zO)).2)) (k + 1) := by
  obtain ⟨xs, h2, h3, h4⟩ := h.row
  have hr := hs.row h2 hsg M.hwr.2.2.2.1
  have hl : k * 4 + (encA (do14 (run14 newW (l.take k)).1 (l.getD k zO)).2).length ≤ xs.length := by rw [shA.len, h3]; omega
  obtain ⟨p1, p2⟩ := WM.pokes hws (encA (do14 (run14 newW (l.take k)).1 (l.getD k zO)).2) (k * 4) w2 xs h1 (h.keep.trans hs) hr
  refine ⟨by rw [run14_take l newW k hk, runS_take M l newW s0 k hk]; exact p1, ⟨_, hr.setCells _ _ _ _ hl, by rw [spl_len hl]; exact h3, ?_⟩, p2⟩
  rw [run14_take l newW k hk]
  have e : (k + 1) * 4 = k * 4 + (encA (do14 (run14 newW (l.take k)).1 (l.getD k zO)).2).length := by rw [shA.len]; omega
  rw [e, spl_take_hi (by omega), h4]
  simp only [flatL, List.flatMap_append, List.flatMap_cons, List.flatMap_nil, List.append_nil]

set_option maxHeartbeats 3200000 in
theorem doAll_any {σ : Type} (M : Mem σ) (base g : Nat) (s0 : σ) (v : Value) (l : List O12) (w0 w : World) (h0 : IsRecs encO 2932031007400 w0 v l) (hb0 : Below w0.heap.size w0 w) (hlo : w0.heap.size ≤ M.lo) (hg0 : w0.heap.size ≤ g) (hwf : ∀ o ∈ l, bdI o.count ∧ bdI o.size) (h : WM M base g w newW s0) :
    Calls Try.prog 22 #[.pointer (some ⟨g, 0, none⟩), v] w fun e w' => ∃ a n c, e = .returned (.slice a n c) ∧ OwnR 40 4 encA w.heap.size w' (.slice a n c) (run14 newW l).2 ∧ WM M base g w' (run14 newW l).1 (runS M newW s0 l) ∧ MKg M g w w' := by
  have hg := h.wok.glt
  obtain ⟨a, cap, rfl, h1, hl, hc'⟩ := h0
  obtain ⟨n, hn⟩ : ∃ n, Hid (n = l.length) := ⟨_, rfl⟩
  rw [← hn.out] at hl hc' h1
  rw [← hn.out]
  obtain ⟨i0, hi0, hz0, hz1, hz2⟩ := info_parts info_ansv
  go_enter Try.func22, Try.ntmps22
  go_wp2_with (at_make; refine wpList_make_room _ rfl _ _ 26 rfl 40 i0 _ Try.underlying26 hi0 hz0 hz1 .i64 .i64 n n rfl rfl (Nat.le_refl _) (by rw [hz2]; omega) (by unfold maxLen; omega) ?_; intro w2 xs hrow hxs hb2 hs2)
  have HR0 : Hid (RunK M base g w.heap.size n s0 l w w2 0) := ⟨h.below hb2, ⟨xs, hrow, hxs, by simp [flatL, run14]⟩, MKg.of_below hb2⟩
  have HBW : Hid (∀ w', MKg M g w w' → Below w0.heap.size w0 w') := fun w' hk => hb0.trans (hk.to_below hlo hb0.size hg0)
  have HI : Hid (∀ k, Inv (run14 newW (l.take k)).1) := fun k => inv_run inv_new
  have hgs : g < w.heap.size := hg
  clear hrow hxs hb2 hs2 h hb0 hlo hg0
  go_loopw [13] (fun i wr => ∃ k : Nat, k ≤ n ∧ i = .int .i64 k ∧ Hid (RunK M base g w.heap.size n s0 l w wr k)) (fun i _ => n - (intOf i).toNat)
  case atStart => exact ⟨0, Nat.zero_le _, rfl, HR0.out⟩
  clear HR0
  case round =>
    obtain ⟨k, hkn, rfl, hrun⟩ := hrel
    by_cases hlt : k < n
    · obtain ⟨b, off, rfl, hc⟩ := hc' (by omega)
      have hkl : k < l.length := by rw [← hn.out]; exact hlt
      have hbel : Below w0.heap.size w0 wr := HBW.out _ hrun.out.keep
      have hgr : g < wr.heap.size := hrun.out.wm.wok.glt
      have hsr : w.heap.size < wr.heap.size := by obtain ⟨xs, hx, -⟩ := hrun.out.row; exact hx.lt
      have hbd : bdI (l.getD k zO).count ∧ bdI (l.getD k zO).size := hwf _ (by rw [List.getD_eq_getElem?_getD, List.getElem?_eq_getElem hkl, Option.getD_some]; exact List.getElem_mem hkl)
      obtain ⟨D, hD⟩ : ∃ D, D = do14 (run14 newW (l.take k)).1 (l.getD k zO) := ⟨_, rfl⟩
      obtain ⟨DS, hDS⟩ : ∃ DS, DS = doS M (run14 newW (l.take k)).1 (runS M newW s0 (l.take k)) (l.getD k zO) := ⟨_, rfl⟩
      have HEND : Hid (∀ w2, WM M base g w2 D.1 DS → MKg M g wr w2 → RunK M base g w.heap.size n s0 l w (w2.setCells w.heap.size (k * 4) (encA D.2)) (k + 1)) := fun w2 h1 h2 => by
        rw [hD, hDS] at h1
        rw [hD]
        exact hrun.out.next hkl hlt h1 h2 (by omega) (by omega)
      have HDO : Hid (∀ w1, Below wr.heap.size wr w1 → Calls Try.prog 32 #[.pointer (some ⟨g, 0, none⟩), opV (l.getD k zO)] w1 fun e w' => e = .returned (ansV D.2) ∧ WM M base g w' D.1 DS ∧ MKg M g w1 w') := fun w1 hb => by
        rw [hD, hDS]
        exact do14_any M base g _ _ _ hbd.1 hbd.2 w1 (hrun.out.wm.below hb) (HI.out k)
      clear hD hDS hbd
      obtain ⟨SA, a1, a2, a3, a4⟩ := D
      obtain ⟨O, hO⟩ : ∃ O, O = l.getD k zO := ⟨_, rfl⟩
      rw [← hO] at HDO
      obtain ⟨kind, proc, page, count, rights, key, tagged, draw, addr, size, value, tag⟩ := O
      obtain ⟨⟨c0, c1, c2, c3, c4, c5⟩, c6, c7, c8, c9, c10, c11⟩ := cell12 hc hbel k hkl hO
      clear hO hkl
      have HBX : Hid (Below wr.heap.size wr (wr.alloc (.cells #[.int .i64 kind, .int .i64 proc, .int .i64 page, .int .i64 count, .int .i64 rights, .int .i64 key, .bool tagged, .int .i64 draw, .int .i64 addr, .int .i64 size, .int .i64 value, .int .i64 tag] 24))) := (Below.refl _ _).alloc (Nat.le_refl _) _
      have HTH : Hid (∀ w2, MKg M g wr w2 → w2.there w.heap.size (k * 4) 4) := fun w2 hs j hj => by
        obtain ⟨xs, h2, h3, -⟩ := hrun.out.row
        have h2' := hs.row h2 (by omega) M.hwr.2.2.2.1
        exact ⟨by rw [h2'.cell, List.getElem?_eq_getElem (by rw [h3]; omega)]; rfl, h2'.free _⟩
      clear hrun
      go_wp2_with fail
      refine (HDO.out _ HBX.out).mono ?_
      rintro e w3 ⟨rfl, hw3, hsp3⟩
      have hsr3 : MKg M g wr w3 := (MKg.of_below HBX.out).trans hsp3
      have hth : Hid (w3.there w.heap.size (k * 4) 4) := HTH.out _ hsr3
      have HE : Hid (RunK M base g w.heap.size n s0 l w (w3.setCells w.heap.size (k * 4) [.int .i64 a1, .int .i64 a2, .int .i64 a3, .int .i64 a4]) (k + 1)) := HEND.out _ hw3 hsr3
      have hone : Hid ((#[.int .i64 a1, .int .i64 a2, .int .i64 a3, .int .i64 a4] : Array Value).all (·.oneCell') = true) := all_oneCell_toArray (cs := [.int .i64 a1, .int .i64 a2, .int .i64 a3, .int .i64 a4]) (by intro v hv; simp only [List.mem_cons, List.not_mem_nil, or_false] at hv; rcases hv with rfl | rfl | rfl | rfl <;> rfl)
      clear HBX HTH HEND HDO c0 c1 c2 c3 c4 c5 c6 c7 c8 c9 c10 c11 hw3 hsp3 hsr3
      go_wp2_with (first
        | (refine wpList_store_mid rfl 40 (.tmp 23) (.tmp 22) rfl w.heap.size (k * 4) #[.int .i64 a1, .int .i64 a2, .int .i64 a3, .int .i64 a4] rfl rfl hth.out info_ans hone.out ?_; generalize w3.setCells w.heap.size (k * 4) (#[.int .i64 a1, .int .i64 a2, .int .i64 a3, .int .i64 a4] : Array Value).toList = w4 at HE ⊢))
      go_roundw
      case rel => exact ⟨k + 1, by omega, by go_num, HE.out⟩
      case measure => simp [intOf]; omega
    · obtain rfl : k = n := by omega
      have hrr := hrun.out
      obtain ⟨xs, hx, hxl, hxt⟩ := hrr.row
      have hall : l.take k = l := by rw [hn.out]; exact List.take_length
      have hwm := hrr.wm
      rw [hall] at hwm hxt
      have hOW := ownR_of_row (cap := k) (l := (run14 newW l).2) shA (Nat.le_refl w.heap.size) hx (by rw [run14_len, ← hn.out]; exact Nat.le_refl _) (by unfold maxLen; omega) hxl (by rw [run14_len, ← hn.out]; exact hxt)
      rw [run14_len, ← hn.out] at hOW
      have HF : Hid (OwnR 40 4 encA w.heap.size wr (.slice (some ⟨w.heap.size, 0, none⟩) k k) (run14 newW l).2 ∧ WM M base g wr (run14 newW l).1 (runS M newW s0 l) ∧ MKg M g w wr) := ⟨hOW, hwm, hrr.keep⟩
      clear hrun hrr hx hxl hxt hall hwm hOW hc'
      go_wp2
      go_ret
      exact ⟨_, _, _, rfl, HF.out.1, HF.out.2.1, HF.out.2.2⟩

end Go.Proofs.Ytbiipnojhjhejaa

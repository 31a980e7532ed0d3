/- Slices of bytes as lists of numbers: what reads as them, a row of the call's own, string(b); no function of the program is named. -/
import Derived.Test.YtlhmfbkpmfofiaiRows
import Derived.Test.YtlhmfbkpmfofiaiJMath
import Derived.Test.YtlhmfbkpmfofiaiKit
import Derived.WalkKit
import Derived.WalkLawsBesides
import Derived.WalkSpells
import Derived.Below
import Derived.OpenShut
import Derived.Laws.CopyOwn
import Derived.Laws.BytesArg
namespace Go.Proofs.Ytlhmfbkpmfofiai
set_option maxRecDepth 100000
open Go.RowKit

/-- The value v is a slice of the bytes zs in the world w. -/
def IsBytes (w : World) (v : Value) (zs : List Int) : Prop :=
  ∃ a cap, v = .slice a zs.length cap ∧ zs.length ≤ cap ∧ zs.length ≤ 140737488351232 ∧ Bytes zs ∧
    (0 < zs.length → ∃ b off, a = some ⟨b, off, none⟩ ∧ ∀ i, i < zs.length → w.cell? ⟨b, off + i, none⟩ = some (.int .u8 (zs.getD i 0)))

theorem IsBytes.below {w w' : World} {v : Value} {zs : List Int} (h : IsBytes w v zs) (hb : Below w.heap.size w w') : IsBytes w' v zs := by
  obtain ⟨a, cap, rfl, h1, h2, h3, h4⟩ := h
  refine ⟨a, cap, rfl, h1, h2, h3, fun hp => ?_⟩
  obtain ⟨b, off, rfl, hc⟩ := h4 hp
  refine ⟨b, off, rfl, fun i hi => ?_⟩
  rw [← hc i hi]
  exact hb.cell (cell_lt (hc i hi))

theorem Try.infoU8 : (Try.prog.info? 5).map (fun i => (i.zero, i.size, i.bytes)) = some (some (.int .u8 0), 1, 1) := by kernel_rfl
theorem Try.sizeU8 : (Try.prog.info? 5).map (·.size) = some 1 := by kernel_rfl

/-- Numbers as cells of bytes. -/
def vals (zs : List Int) : List Value := zs.map (Value.int .u8)

theorem vals_get (zs : List Int) (i : Nat) (h : i < zs.length) : (vals zs)[i]? = some (.int .u8 (zs.getD i 0)) := by
  simp [vals, List.getD_eq_getElem?_getD, h]
theorem vals_set (zs : List Int) (i : Nat) (x : Int) : (vals zs).set i (.int .u8 x) = vals (zs.set i x) := by simp [vals, List.map_set]
theorem length_vals (zs : List Int) : (vals zs).length = zs.length := by simp [vals]
theorem vals_one (zs : List Int) : ∀ v ∈ vals zs, v.oneCell' = true := by
  intro v hv
  simp [vals] at hv
  obtain ⟨x, _, rfl⟩ := hv
  rfl

theorem isBytes_nil (w : World) : IsBytes w (.slice none 0 0) [] := ⟨none, 0, rfl, by simp, by simp, by intro i; simp, fun h => by simp at h⟩

theorem isBytes_own {w : World} {g : Nat} {zs : List Int} (h : OwnRow w g 5 (vals zs)) (hz : Bytes zs) (hl : zs.length ≤ 140737488351232) : IsBytes w (.slice (some ⟨g, 0, none⟩) zs.length zs.length) zs :=
  ⟨_, zs.length, rfl, Nat.le_refl _, hl, hz, fun _ => ⟨g, 0, rfl, fun i hi => by rw [Nat.zero_add, h.cell]; exact vals_get zs i hi⟩⟩

theorem isBytes_row {w : World} {a : Addr} {len cap : Nat} {zs : List Int} (hl : len ≤ cap) (hr : cap ≤ 140737488351232) (hz : zs.length = cap)
    (hcell : ∀ i, i < zs.length → w.cell? (a.add i) = some (.int .u8 (zs.getD i 0))) (hwz : ∀ n ∈ zs, (Lit.int .u8 n).wf = true) : IsBytes w (.slice (some a) len cap) (zs.take len) := by
  have hlen : (zs.take len).length = len := by simp; omega
  refine ⟨some a, cap, by rw [hlen], by omega, by omega, fun i => ?_, fun hp => ?_⟩
  · by_cases hi : i < (zs.take len).length
    · have hm : (zs.take len).getD i 0 ∈ zs := by
        rw [List.getD_eq_getElem?_getD, List.getElem?_eq_getElem hi]
        exact List.mem_of_mem_take (List.getElem_mem hi)
      exact bounds_u8 (hwz _ hm)
    · rw [List.getD_eq_getElem?_getD, List.getElem?_eq_none (by omega)]; simp
  · obtain ⟨b, off, spot⟩ := a
    have hc := hcell 0 (by omega)
    have hspot : spot = none := by simpa [Addr.add] using World.cell?_spot hc
    subst hspot
    refine ⟨b, off, rfl, fun i hi => ?_⟩
    have := hcell i (by omega)
    rw [add_none] at this
    rw [this]
    simp [List.getD_eq_getElem?_getD, show i < len by omega]

theorem vals_snoc (zs : List Int) (x : Int) : vals (zs ++ [x]) = vals zs ++ [.int .u8 x] := by simp [vals]

theorem isBytes_owns {w : World} {base : Nat} {v : Value} {zs : List Int} (h : w.ownsRow base 5 1 v zs.length (vals zs)) (hz : Bytes zs) (hl : zs.length ≤ 140737488351232) : IsBytes w v zs := by
  rcases h.2 with ⟨rfl, h0⟩ | ⟨g, cap, cur, rfl, _, hg, hn, _, _, htake⟩
  · obtain rfl : zs = [] := by simpa using h0
    exact isBytes_nil w
  · refine ⟨_, cap, rfl, hn, hl, hz, fun _ => ⟨g, 0, rfl, fun i hi => ?_⟩⟩
    have := h.cells (g := g) rfl i _ (vals_get zs i hi)
    rw [add_none] at this
    exact this

theorem str_of {w : World} {v : Value} {zs : List Int} (h : IsBytes w v zs) : (convert 47 9 v).run Try.prog w = .ok (.string (strOfNums zs)) w := by
  obtain ⟨a, cap, rfl, h1, h2, h3, h4⟩ := h
  by_cases h0 : 0 < zs.length
  · obtain ⟨b, off, rfl, hc⟩ := h4 h0
    exact run_convert_bytes_arg w 47 5 Try.underlying47 Try.underlying5 b off zs.length cap zs rfl hc 9 Try.underlying9
  · obtain rfl : zs = [] := List.eq_nil_of_length_eq_zero (by omega)
    cases a with
    | none => exact run_convert_bytes_nil w 47 5 Try.underlying47 Try.underlying5 0 cap 9 Try.underlying9
    | some ad =>
      rw [run_convert_bytes_string w 47 9 5 _ _ _ Try.underlying47 Try.underlying5 Try.underlying9]
      have hl := run_loadCells_list (P := Try.prog) w ad [] (fun j v hj => by simp at hj)
      exact run_bytesToString w ad 0 cap [] hl

theorem zero_gen {w : World} {g : Nat} (m : Nat) (h : w.heap[g]? = some (.cells (madeCells #[.int .u8 0] m) 5)) (hm : m ≤ 140737488351232) : IsBytes w (.slice (some ⟨g, 0, none⟩) m m) (List.replicate m 0) := by
  have hl : (List.replicate m (0 : Int)).length = m := List.length_replicate
  have hr : madeCells #[.int .u8 0] m = (vals (List.replicate m 0)).toArray := by
    unfold vals
    rw [List.map_replicate, ← toList_madeCells_one]
  have ho : OwnRow w g 5 (vals (List.replicate m 0)) := by unfold OwnRow; rw [h, hr]
  have := isBytes_own ho (by
    intro i
    rw [List.getD_eq_getElem?_getD, List.getElem?_replicate]
    split <;> simp) (by omega)
  rw [hl] at this
  exact this

end Go.Proofs.Ytlhmfbkpmfofiai

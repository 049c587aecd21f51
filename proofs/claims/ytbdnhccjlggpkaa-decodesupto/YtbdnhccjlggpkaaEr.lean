import Derived.Test.YtbdnhccjlggpkaaEw
import Derived.ProofKit
import Derived.OpenShut
import Derived.JoinedCond
import Derived.Deep.Slices
import Derived.Carry
namespace Go.Proofs.Ytbdnhccjlggpkaa
open Go.ChangeShapes Go.WideShapes Go.ChangeAt Go.RowKit Go.Deep
theorem cells52 : Try.prog.cellsOf 52 = 2 := by kernel_rfl
theorem cells9 : Try.prog.cellsOf 9 = 1 := by kernel_rfl
theorem bulk_append {H : Type} (l r : List (DataW H)) : Rows.uptoBulkAll (l ++ r) = Rows.uptoBulkAll l + Rows.uptoBulkAll r := by
  induction l with
  | nil => simp [Rows.uptoBulkAll]
  | cons x l ih => simp only [List.cons_append, Rows.uptoBulkAll, ih]; omega
/-- A record as data. -/
def recD {H : Type} (r : RecB) : DataW H := .agg [.lit (.string r.1.data.toList), .lit (.string r.2.data.toList)]
theorem bulk_recs {H : Type} (rs : List RecB) : Rows.uptoBulkAll (rs.map (recD (H := H))) = (textOf rs).length + rs.length := by
  induction rs with
  | nil => simp [Rows.uptoBulkAll, textOf]
  | cons r rs ih =>
    obtain ⟨k, v⟩ := r
    have e : textOf ((k, v) :: rs) = recB (k, v) ++ textOf rs := by simp [textOf]
    have hk : k.data.toList.length = k.size := rfl
    have hv : v.data.toList.length = v.size := rfl
    rw [List.map_cons, Rows.uptoBulkAll, ih, e, List.length_append, recB_length, List.length_cons]
    simp only [recD, Rows.uptoBulk, Rows.uptoBulkAll, hk, hv]
    omega
theorem two_cells {cs : List Value} (h : cs.length = 2) : ∃ a b, cs = [a, b] := by
  cases cs with
  | nil => cases h
  | cons a cs =>
    cases cs with
    | nil => cases h
    | cons b cs =>
      cases cs with
      | nil => exact ⟨a, b, rfl⟩
      | cons c cs => simp at h
/-- One record's reading. -/
theorem open_rec {H : Type} {enc : TypeId × Value → H} {W : World} {base : Nat} {spare : Nat → Bool} {held : Bool} {n : Nat} {c0 c1 : Value} {x : DataW H × List MemPlace}
    (h2 : DataW.trod enc Try.prog W base spare held n 52 [c0, c1] = some x) : ∃ r : RecB, x.1 = recD r ∧ c0 = .string r.1 ∧ c1 = .string r.2 := by
  obtain ⟨y0, y1, q, hxx, _, hy0, hy1⟩ := trod_struct2 Try.underlying52 h2
  rw [cells9] at hy0 hy1
  have hy0' : DataW.trod enc Try.prog W base spare held q 9 [c0] = some y0 := hy0
  have hy1' : DataW.trod enc Try.prog W base spare held q 9 [c1] = some y1 := hy1
  obtain ⟨s, e0, e0', _⟩ := DataW.trod_string Try.underlying9 hy0'
  obtain ⟨t, e1, e1', _⟩ := DataW.trod_string Try.underlying9 hy1'
  refine ⟨(s, t), ?_, List.head_eq_of_cons_eq e0, List.head_eq_of_cons_eq e1⟩
  rw [hxx, e0', e1']
  rfl
theorem open_recs {H : Type} {enc : TypeId × Value → H} {W : World} {base : Nat} {spare : Nat → Bool} {held : Bool} {ao : Option Addr} {len cap : Nat} {d : DataW H} {ps : List MemPlace}
    (h : DataW.Trod enc Try.prog W base spare held 25 (.slice ao len cap) d ps) :
    ∃ rs : List RecB, rs.length = len ∧ Rd W W.heap.size (.slice ao len cap) len (recCells rs) ∧ (textOf rs).length + len ≤ Rows.uptoBulk d := by
  obtain ⟨fuel, hf⟩ := h
  have hf' : DataW.trod enc Try.prog W base spare held fuel 25 [.slice ao len cap] = some (d, ps) := hf
  rcases open_slice Try.underlying25 hf' with ⟨hcs, hx⟩ | ⟨a, len', cap', m, n, D, Pl, hcs, hb, hl, hmx, hm, hx, hel⟩
  · cases hcs
    exact ⟨[], rfl, ⟨none, 0, rfl, Nat.le_refl _, Or.inl rfl⟩, by simp [textOf]⟩
  · cases hcs
    have hlm : len ≤ m := by rw [hm]; split <;> omega
    have key : ∀ i, i < len → ∃ r : RecB, D i = recD r ∧ W.cell? (a.add (i * 2)) = some (.string r.1) ∧ W.cell? ((a.add (i * 2)).add 1) = some (.string r.2) := by
      intro i hi
      obtain ⟨cs', h1, h2⟩ := hel i (by omega)
      rw [cells52] at h1
      obtain ⟨_, hcl, hcc⟩ := World.cells?_some h1
      obtain ⟨c0, c1, rfl⟩ := two_cells hcl
      obtain ⟨r, hr, rfl, rfl⟩ := open_rec h2
      have g0 := hcc 0 (by omega)
      have g1 := hcc 1 (by omega)
      have ga : (a.add (i * 2)).add 0 = a.add (i * 2) := by rw [add_add]; rfl
      rw [ga] at g0
      exact ⟨r, hr, g0, g1⟩
    obtain ⟨R, hR⟩ := choose_lt key
    have hlen : ((List.range len).map R).length = len := by simp
    refine ⟨(List.range len).map R, hlen, ?_, ?_⟩
    · refine ⟨some a, cap, rfl, hl, ?_⟩
      by_cases h0 : len = 0
      · exact Or.inl h0
      · right
        have c0 := (hR 0 (by omega)).2.1
        obtain ⟨b, off, spot⟩ := a
        have hspot : spot = none := by simpa [Addr.add] using World.cell?_spot c0
        subst hspot
        have hbl : b < W.heap.size := by
          have := World.block_lt_of_cell? W _ c0
          simpa [Addr.add] using this
        refine ⟨b, off, rfl, hbl, ?_⟩
        intro j u hj
        have hjl : j < len * 2 := by
          have := recCells_length ((List.range len).map R)
          rw [hlen] at this
          rcases Nat.lt_or_ge j (len * 2) with h1 | h1
          · exact h1
          · rw [List.getElem?_eq_none (by omega)] at hj; cases hj
        obtain ⟨i, hi, hji⟩ : ∃ i, i < len ∧ (j = i * 2 ∨ j = i * 2 + 1) := ⟨j / 2, by omega, by omega⟩
        have hRi := hR i hi
        have hget : ((List.range len).map R)[i]'(by rw [hlen]; exact hi) = R i := by simp
        rcases hji with rfl | rfl
        · have := recCells_0 ((List.range len).map R) i (by rw [hlen]; exact hi)
          rw [this, hget] at hj
          cases hj
          rw [← hRi.2.1, add_plain]
        · have := recCells_1 ((List.range len).map R) i (by rw [hlen]; exact hi)
          rw [this, hget] at hj
          cases hj
          rw [← hRi.2.2, add_add, add_plain]
    · simp only [Prod.mk.injEq] at hx
      have e : (List.range len).map D = ((List.range len).map R).map (recD (H := H)) := by
        rw [List.map_map]
        exact List.map_congr_left fun i hi => (hR i (by simpa using hi)).1
      rw [hx.1, e]
      have hb2 := bulk_recs (H := H) ((List.range len).map R)
      rw [hlen] at hb2
      simp only [Rows.uptoBulk]
      omega
end Go.Proofs.Ytbdnhccjlggpkaa

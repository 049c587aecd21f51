import Derived.Test.YtbdnhccjlggpkaaDw
import Derived.Test.YtbdnhccjlggpkaaEr
namespace Go.Proofs.Ytbdnhccjlggpkaa
open Go.ChangeShapes Go.WideShapes Go.ChangeAt Go.RowKit Go.Deep
/-- A string as data. -/
def strD {H : Type} (s : ByteArray) : DataW H := .lit (.string s.data.toList)
/-- What the blocks weigh together. -/
def total (ss : List ByteArray) : Nat := (ss.map ByteArray.size).sum
theorem bulk_strs {H : Type} (ss : List ByteArray) : Rows.uptoBulkAll (ss.map (strD (H := H))) = total ss + ss.length := by
  induction ss with
  | nil => simp [Rows.uptoBulkAll, total]
  | cons s ss ih =>
    have hk : s.data.toList.length = s.size := rfl
    have e : total (s :: ss) = s.size + total ss := by simp [total]
    rw [List.map_cons, Rows.uptoBulkAll, ih, e, List.length_cons]
    simp only [strD, Rows.uptoBulk, hk]
    omega
theorem total_mem {ss : List ByteArray} {s : ByteArray} (h : s ∈ ss) : s.size ≤ total ss := by
  induction ss with
  | nil => cases h
  | cons t ss ih =>
    have e : total (t :: ss) = t.size + total ss := by simp [total]
    rw [e]
    rcases List.mem_cons.1 h with rfl | h
    · omega
    · have := ih h; omega
theorem content_total (ss : List ByteArray) : (contentOf ss).length ≤ total ss := by
  induction ss with
  | nil => simp [contentOf]
  | cons s ss ih =>
    have e : total (s :: ss) = s.size + total ss := by simp [total]
    rw [e, content_cons, List.length_append]
    have : ((unsealL s.data.toList).getD []).length ≤ s.size := by
      cases h : unsealL s.data.toList with
      | none => simp
      | some p => have := (unsealL_len h).2.2; rw [size_toList] at this; rw [Option.getD_some]; omega
    omega
theorem one_cell {cs : List Value} (h : cs.length = 1) : ∃ a, cs = [a] := by
  cases cs with
  | nil => cases h
  | cons a cs =>
    cases cs with
    | nil => exact ⟨a, rfl⟩
    | cons b cs => simp at h
theorem open_strs {H : Type} {enc : TypeId × Value → H} {W : World} {base : Nat} {spare : Nat → Bool} {held : Bool} {ao : Option Addr} {len cap : Nat} {d : DataW H} {ps : List MemPlace}
    (h : DataW.Trod enc Try.prog W base spare held 28 (.slice ao len cap) d ps) :
    ∃ ss : List ByteArray, ss.length = len ∧ Rd W W.heap.size (.slice ao len cap) len (strs ss) ∧ Src W (.slice ao len cap) len (strs ss) ∧ total ss + len ≤ Rows.uptoBulk d := by
  obtain ⟨fuel, hf⟩ := h
  have hf' : DataW.trod enc Try.prog W base spare held fuel 28 [.slice ao len cap] = some (d, ps) := hf
  rcases open_slice Try.underlying28 hf' with ⟨hcs, hx⟩ | ⟨a, len', cap', m, n, D, Pl, hcs, hb, hl, hmx, hm, hx, hel⟩
  · cases hcs
    exact ⟨[], rfl, ⟨none, 0, rfl, Nat.le_refl _, Or.inl rfl⟩, Or.inl ⟨rfl, rfl⟩, by simp [total]⟩
  · cases hcs
    have hlm : len ≤ m := by rw [hm]; split <;> omega
    have key : ∀ i, i < len → ∃ r : ByteArray, D i = strD r ∧ W.cell? (a.add i) = some (.string r) := by
      intro i hi
      obtain ⟨cs', h1, h2⟩ := hel i (by omega)
      rw [cells9] at h1
      obtain ⟨_, hcl, hcc⟩ := World.cells?_some h1
      obtain ⟨c0, rfl⟩ := one_cell hcl
      obtain ⟨s, e0, e0', _⟩ := DataW.trod_string Try.underlying9 h2
      have g0 := hcc 0 (by omega)
      have ga : (a.add (i * 1)).add 0 = a.add i := by rw [add_add, Nat.mul_one]; rfl
      rw [ga] at g0
      have : c0 = .string s := List.head_eq_of_cons_eq e0
      subst this
      exact ⟨s, congrArg Prod.fst e0', g0⟩
    obtain ⟨R, hR⟩ := choose_lt key
    have hlen : ((List.range len).map R).length = len := by simp
    have hcell : ∀ j u, (strs ((List.range len).map R))[j]? = some u → W.cell? (a.add j) = some u := by
      intro j u hj
      have hjl : j < len := by
        rcases Nat.lt_or_ge j len with h1 | h1
        · exact h1
        · rw [List.getElem?_eq_none (by simp [strs]; omega)] at hj; cases hj
      rw [strs_get _ j (by rw [hlen]; exact hjl)] at hj
      cases hj
      rw [(hR j hjl).2]
      simp
    refine ⟨(List.range len).map R, hlen, ?_, Or.inr ⟨a, cap, rfl, hcell⟩, ?_⟩
    · refine ⟨some a, cap, rfl, hl, ?_⟩
      by_cases h0 : len = 0
      · exact Or.inl h0
      · right
        have c0 := (hR 0 (by omega)).2
        obtain ⟨b, off, spot⟩ := a
        have hspot : spot = none := by simpa [Addr.add] using World.cell?_spot c0
        subst hspot
        have hbl : b < W.heap.size := by
          have := World.block_lt_of_cell? W _ c0
          simpa [Addr.add] using this
        refine ⟨b, off, rfl, hbl, ?_⟩
        intro j u hj
        rw [← hcell j u hj, add_plain]
    · simp only [Prod.mk.injEq] at hx
      have e : (List.range len).map D = ((List.range len).map R).map (strD (H := H)) := by
        rw [List.map_map]
        exact List.map_congr_left fun i hi => (hR i (by simpa using hi)).1
      rw [hx.1, e]
      have hb2 := bulk_strs (H := H) ((List.range len).map R)
      rw [hlen] at hb2
      simp only [Rows.uptoBulk]
      omega
end Go.Proofs.Ytbdnhccjlggpkaa

import Derived.Test.YtbdnhccjlggpkaaU2
namespace Go.Proofs.Ytbdnhccjlggpkaa
open Go.RowKit
/-- What is neither the box Br nor a row of bytes from B on lies as it lay. -/
structure Fr (B Br : Nat) (W W' : World) : Prop where
  os : W'.os = W.os
  tape : W'.tape = W.tape
  output : W'.output = W.output
  size : W.heap.size ≤ W'.heap.size
  block : ∀ i, i < W.heap.size → i ≠ Br → (B ≤ i → ∀ cur, W.heap[i]? ≠ some (.cells cur 5 (0, 0))) → W'.heap[i]? = W.heap[i]?
theorem Fr.refl (B Br : Nat) (W : World) : Fr B Br W W := ⟨rfl, rfl, rfl, Nat.le_refl _, fun _ _ _ _ => rfl⟩
theorem Fr.trans {B Br : Nat} {W W1 W2 : World} (h : Fr B Br W W1) (k : Fr B Br W1 W2) : Fr B Br W W2 :=
  ⟨k.os.trans h.os, k.tape.trans h.tape, k.output.trans h.output, Nat.le_trans h.size k.size, fun i hi hb hc => by
    have e := h.block i hi hb hc
    exact (k.block i (Nat.lt_of_lt_of_le hi h.size) hb (fun h1 cur => by rw [e]; exact hc h1 cur)).trans e⟩
theorem Fr.of_grown {B Br : Nat} {W W' : World} (h : W.grownBy W' (some Br)) : Fr B Br W W' :=
  ⟨h.os, h.tape, h.output, h.size, fun i hi hb _ => h.block i hi (fun e => hb (by cases e; rfl))⟩
theorem Fr.of_none {B Br : Nat} {W W' : World} (h : W.grownBy W' none) : Fr B Br W W' :=
  ⟨h.os, h.tape, h.output, h.size, fun i hi _ _ => h.block i hi (fun e => by cases e)⟩
theorem RS.of_owns {W : World} {B : Nat} {v : Value} {l : List UInt8} (h : W.ownsRow B 5 1 v l.length (bytesV l)) : RS W B v l := by
  rcases h.2 with ⟨rfl, h0⟩ | ⟨g, cap, cur, rfl, hb, hh, hn, _, hcs, ht⟩
  · exact Or.inl ⟨rfl, List.eq_nil_of_length_eq_zero h0⟩
  · refine Or.inr ⟨g, 0, cap, cur, rfl, hn, hb, hh, fun _ => by omega, fun j u hj => ?_⟩
    rw [Nat.zero_add, ← Array.getElem?_toList]
    rw [Nat.mul_one] at ht
    rw [← ht] at hj
    have hjl : j < l.length := by have := (List.getElem?_eq_some_iff.1 hj).1; rw [List.length_take] at this; omega
    rwa [List.getElem?_take_of_lt hjl] at hj
theorem strCells_bytes (p : List UInt8) : Lib.strCells ⟨p.toArray⟩ = bytesV p := by unfold Lib.strCells bytesV; simp
theorem mk_size (p : List UInt8) : (ByteArray.mk p.toArray).size = p.length := by show p.toArray.size = _; simp
theorem rs_append {W : World} {B : Nat} {v : Value} {l : List UInt8} (h : RS W B v l) (p : List UInt8) (hmax : l.length + p.length ≤ 268435456) (hB : B ≤ W.heap.size) :
    ∃ a c W', (Builtin.append_ #[55, 9] 55 #[v, .string ⟨p.toArray⟩]).run Try.prog W = .ok (.slice a (l ++ p).length c) W' ∧ RS W' B (.slice a (l ++ p).length c) (l ++ p) ∧ ∀ Br, Fr B Br W W' := by
  obtain ⟨i0, hi0, hz0, hz1, hz2⟩ := info_parts info5
  have hps := mk_size p
  rcases h with ⟨rfl, rfl⟩ | ⟨b, off, cap, cur, rfl, h2, h3, h4, h5, h6⟩
  · obtain ⟨v', w', hr, ho, hg, _⟩ := Lib.run_append_own_string (P := Try.prog) W B 55 9 55 5 i0 Try.underlying55 Try.underlying9 hi0 hz0 hz1 hz2 (.slice none 0 0) 0 [] (World.ownsRow_nil _ _ _ _) ⟨p.toArray⟩ (by rw [hps]; unfold maxLen; omega) (by rw [hps]; omega) hB
    rw [hps, strCells_bytes] at ho
    have ho2 : w'.ownsRow B 5 1 v' ([] ++ p).length (bytesV ([] ++ p)) := by simpa using ho
    obtain ⟨a, c, rfl, _⟩ := (RS.of_owns ho2).len
    exact ⟨a, c, w', hr, RS.of_owns ho2, fun Br => Fr.of_none hg⟩
  · by_cases hroom : l.length + p.length ≤ cap
    · by_cases hp0 : p.length = 0
      · obtain rfl : p = [] := List.eq_nil_of_length_eq_zero hp0
        refine ⟨some ⟨b, off, none⟩, cap, W, ?_, Or.inr ⟨b, off, cap, cur, rfl, by simpa using h2, h3, h4, h5, by simpa using h6⟩, fun Br => Fr.refl _ _ _⟩
        have hf := Lib.run_firstCells_string (P := Try.prog) W 1 ⟨#[]⟩
        have e0 : (ByteArray.mk #[]).size = 0 := rfl
        have e1 : Lib.strCells ⟨#[]⟩ = [] := rfl
        rw [e0, e1] at hf
        simp [Builtin.append_, run_underlying Try.underlying55, run_underlying Try.underlying9, sizeOf, typeInfo, hi0, hz1, Builtin.lenOf, e0, h2, hf, storeCells]
      · have hcp : 0 < cap := by omega
        have hfit := h5 hcp
        have hcl : cur.toList.length = cur.size := rfl
        have hst := run_storeCells_at Try.prog b (off + l.length) 5 (bytesV p) 0 cur W h4 (by rw [bytesV_length]; omega) (by intro u hu; unfold bytesV at hu; simp at hu; obtain ⟨c, _, rfl⟩ := hu; rfl)
        rw [Nat.add_zero, bytesV_length] at hst
        have hf := Lib.run_firstCells_string (P := Try.prog) W 1 ⟨p.toArray⟩
        rw [hps, strCells_bytes] at hf
        obtain ⟨hlt, hk⟩ := Array.getElem?_eq_some_iff.1 h4
        have hset : (W.setRow b (cur.toList.take (off + l.length) ++ bytesV p ++ cur.toList.drop (off + l.length + p.length)).toArray).heap[b]? = some (.cells (cur.toList.take (off + l.length) ++ bytesV p ++ cur.toList.drop (off + l.length + p.length)).toArray 5 (0, 0)) := by
          show (W.heap.modify b _)[b]? = _
          rw [Array.getElem?_eq_getElem (by rw [Array.size_modify]; exact hlt), Array.getElem_modify_self, hk]
        refine ⟨some ⟨b, off, none⟩, cap, _, ?_, Or.inr ⟨b, off, cap, _, rfl, by rw [List.length_append]; exact hroom, h3, hset, fun _ => ?_, fun j u hj => ?_⟩, fun Br => ⟨rfl, rfl, rfl, by simp, fun i hi hb hc => ?_⟩⟩
        · simp [Builtin.append_, run_underlying Try.underlying55, run_underlying Try.underlying9, sizeOf, typeInfo, hi0, hz1, Builtin.lenOf, hps, hroom, hf, Addr.add_lit, hst]
        · simp only [List.size_toArray, List.length_append, List.length_take, List.length_drop, bytesV_length, hcl]; omega
        · rw [bytesV_append] at hj
          rw [List.getElem?_toArray]
          by_cases hjl : j < l.length
          · rw [List.getElem?_append_left (by rw [bytesV_length]; exact hjl)] at hj
            rw [List.append_assoc, List.getElem?_append_left (by rw [List.length_take, hcl]; omega), List.getElem?_take_of_lt (by omega), Array.getElem?_toList]
            exact h6 j u hj
          · rw [List.getElem?_append_right (by rw [bytesV_length]; omega), bytesV_length] at hj
            have hjp : j - l.length < p.length := by have := (List.getElem?_eq_some_iff.1 hj).1; rwa [bytesV_length] at this
            have el : (cur.toList.take (off + l.length)).length = off + l.length := by rw [List.length_take, hcl]; omega
            rw [List.append_assoc, List.getElem?_append_right (by rw [el]; omega), el, List.getElem?_append_left (by rw [bytesV_length]; omega), ← hj]
            exact congrArg (fun q => (bytesV p)[q]?) (by omega)
        · have hne : i ≠ b := fun e => by subst e; exact hc h3 cur h4
          show (W.heap.modify b _)[i]? = _
          rw [Array.getElem?_modify, if_neg (Ne.symm hne)]
    · have hr := Lib.run_append_grow_string (P := Try.prog) W 55 9 55 5 i0 (.int .u8 0) Try.underlying55 Try.underlying9 hi0 hz0 ⟨b, off, none⟩ l.length cap (bytesV l) (by rw [bytesV_length, hz1]; omega) (fun j u hj => by
          have e : (⟨b, off, none⟩ : Addr).add j = ⟨b, off + j, none⟩ := by unfold Addr.add; split <;> simp_all
          rw [e]; exact (cell_of_block h4 _).trans (h6 j u hj)) ⟨p.toArray⟩ (by rw [hps]; omega) (by rw [hps]; omega) (growslice_fits (by rw [hps]; omega) (by rw [hps, hz2]; omega))
      rw [hps, strCells_bytes] at hr
      have hge := grownCap_ge W (l.length + p.length) cap 5
      have hL : (bytesV l ++ bytesV p).length = l.length + p.length := by rw [List.length_append, bytesV_length, bytesV_length]
      refine ⟨_, _, _, by rw [List.length_append]; exact hr, Or.inr ⟨W.heap.size, 0, _, _, rfl, by rw [List.length_append]; exact hge, hB, heap_alloc_new W.drew _, fun _ => ?_, fun j u hj => ?_⟩, fun Br => ⟨rfl, rfl, rfl, by simp, fun i hi _ _ => Below.heap_alloc W.drew _ i hi⟩⟩
      · have hz1' : (Value.int IntKind.u8 0).cells.size = 1 := rfl
        simp only [Array.size_append, List.size_toArray, size_zeroCells, hz1', bytesV_length]
        omega
      · have hjl : j < l.length + p.length := by have := (List.getElem?_eq_some_iff.1 hj).1; rw [bytesV_length, List.length_append] at this; exact this
        rw [Nat.zero_add, Array.getElem?_append_left (by simp [bytesV_length]; exact hjl), ← hj, bytesV_append]
        simp
end Go.Proofs.Ytbdnhccjlggpkaa

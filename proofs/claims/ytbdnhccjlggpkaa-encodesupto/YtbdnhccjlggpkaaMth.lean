import Derived.Test.YtbdnhccjlggpkaaDed
namespace Go.Proofs.Ytbdnhccjlggpkaa
open Go.RowKit
theorem sumL_length (l : List UInt8) : (sumL l).length = 4 := rfl
theorem unseal_block {p : List UInt8} (h1 : 1 ≤ p.length) (h2 : p.length ≤ 60) : unsealL (p ++ sumL p) = some p := by
  unfold unsealL
  have hl : (p ++ sumL p).length = p.length + 4 := by rw [List.length_append, sumL_length]
  rw [hl, Nat.add_sub_cancel, List.take_left, List.drop_left, if_pos ⟨by omega, by omega, rfl⟩]
theorem blockB_list (T : List UInt8) (p : Nat) : (blockB T p).data.toList = pieceL T p ++ sumL (pieceL T p) := by
  unfold blockB; simp
theorem pieceL_eq {T : List UInt8} {p : Nat} (h : p < T.length) : pieceL T p = (T.drop p).take 60 := by
  unfold pieceL; rw [show min p (T.length - 1) = p from by omega]
theorem pieceL_len {T : List UInt8} {p : Nat} (h : p < T.length) : (pieceL T p).length = min 60 (T.length - p) := by
  rw [pieceL_eq h, List.length_take, List.length_drop]
theorem unseal_blockB {T : List UInt8} {p : Nat} (h : p < T.length) : unsealL (blockB T p).data.toList = some (pieceL T p) := by
  rw [blockB_list]
  exact unseal_block (by rw [pieceL_len h]; omega) (by rw [pieceL_len h]; omega)
theorem blockB_size {T : List UInt8} {p : Nat} (h : p < T.length) : (blockB T p).size = min 60 (T.length - p) + 4 := by
  have e : (blockB T p).size = (blockB T p).data.toList.length := rfl
  rw [e, blockB_list, List.length_append, sumL_length, pieceL_len h]
theorem content_starts (T : List UInt8) : ∀ k, k ≤ nB60 T.length → contentOf ((starts k).map (blockB T)) = T.take (k * 60) := by
  intro k
  induction k with
  | zero => intro _; simp [starts, contentOf]
  | succ k ih =>
    intro hk
    have hlt : k * 60 < T.length := by unfold nB60 at hk; omega
    rw [starts_succ, List.map_append, List.map_cons, List.map_nil, contentOf_snoc, ih (by omega), unseal_blockB hlt, Option.getD_some, pieceL_eq hlt]
    rw [show (k + 1) * 60 = k * 60 + 60 from by omega, List.take_add]
theorem content_blocks (T : List UInt8) : contentOf (blocksOf T) = T := by
  unfold blocksOf
  rw [content_starts T _ (Nat.le_refl _), List.take_of_length_le (by unfold nB60; omega)]
theorem blocks_get (T : List UInt8) (j : Nat) (h : j < (blocksOf T).length) : (blocksOf T)[j] = blockB T (j * 60) ∧ j * 60 < T.length := by
  have h2 : j < nB60 T.length := by rw [blocksOf_length] at h; exact h
  constructor
  · unfold blocksOf starts
    simp
  · unfold nB60 at h2; omega
theorem blocks_good (T : List UInt8) : (blocksOf T).findIdx? bad = none := by
  refine findIdx_miss _ _ fun j hj => ?_
  obtain ⟨e, hlt⟩ := blocks_get T j hj
  rw [e]
  unfold bad
  rw [unseal_blockB hlt]; rfl
theorem blocks_full (T : List UInt8) : fullB (blocksOf T) = true := by
  unfold fullB
  rw [List.all_eq_true]
  intro x hx
  obtain ⟨j, hj, rfl⟩ := List.mem_iff_getElem.1 hx
  rw [List.getElem_dropLast]
  rw [List.length_dropLast, blocksOf_length] at hj
  obtain ⟨e, hlt⟩ := blocks_get T j (by rw [blocksOf_length]; omega)
  rw [e, blockB_size hlt]
  unfold nB60 at hj
  simp
  omega
theorem fld_write (k rest : List UInt8) (h : k.length < 256) : fld (UInt8.ofNat k.length :: k ++ rest) = some (k, rest) := by
  have hc : (UInt8.ofNat k.length).toNat = k.length := by rw [UInt8.toNat_ofNat', Nat.mod_eq_of_lt h]
  show fld (UInt8.ofNat k.length :: (k ++ rest)) = _
  rw [fld_cons, hc, if_pos (by rw [List.length_append]; omega), List.take_left, List.drop_left]
theorem one_write {r : RecB} (h : okRec r) (rest : List UInt8) : one (recB r ++ rest) = some (r, rest) := by
  obtain ⟨hk, hv⟩ := h
  have h40 := (isKey_len hk).2
  obtain ⟨k, v⟩ := r
  have hkl : k.data.toList.length = k.size := rfl
  have hvl : v.data.toList.length = v.size := rfl
  have e : recB (k, v) ++ rest = UInt8.ofNat k.data.toList.length :: k.data.toList ++ (UInt8.ofNat v.data.toList.length :: v.data.toList ++ rest) := by
    unfold recB
    rw [hkl, hvl]
    simp
  simp only at hk hv h40
  unfold one
  rw [e, fld_write _ _ (by omega)]
  simp only
  rw [fld_write _ _ (by omega)]
  simp only
  rw [if_pos ⟨hk, by omega⟩]
theorem recB_ne (r : RecB) (rest : List UInt8) : ∃ c l, recB r ++ rest = c :: l := ⟨_, _, rfl⟩
theorem dec_text : ∀ (rs : List RecB), (∀ r ∈ rs, okRec r) → decL (textOf rs) = some rs := by
  intro rs
  induction rs with
  | nil => intro _; rfl
  | cons r rs ih =>
    intro h
    have e : textOf (r :: rs) = recB r ++ textOf rs := by simp [textOf]
    obtain ⟨c, l, hc⟩ := recB_ne r (textOf rs)
    have ho := one_write (h r (by simp)) (textOf rs)
    rw [e, hc] at *
    rw [decL_some ho, ih (fun x hx => h x (by simp [hx]))]
    rfl
/-- What is written is read. -/
theorem decA_enc {rs : List RecB} (h1 : rs.findIdx? noKey = none) (h2 : rs.findIdx? longV = none) : decA (encB rs) = (rs, 0, 0) := by
  have e2 : encB rs = blocksOf (textOf rs) := by unfold encB; rw [h1, h2]
  unfold decA
  rw [e2, blocks_good, blocks_full, content_blocks, dec_text rs (ok_of_none h1 h2)]
  rfl
end Go.Proofs.Ytbdnhccjlggpkaa

import Derived.Test.YtbdnhccjlggpkaaRd
namespace Go.Proofs.Ytbdnhccjlggpkaa
open Go.RowKit
theorem fld_back {l k r : List UInt8} (h : fld l = some (k, r)) : l = UInt8.ofNat k.length :: k ++ r := by
  cases l with
  | nil => cases h
  | cons c l =>
    rw [fld_cons] at h
    split at h
    · rename_i hc
      cases h
      rw [List.length_take, Nat.min_eq_left hc, UInt8.ofNat_toNat]
      show c :: l = c :: (l.take c.toNat ++ l.drop c.toNat)
      rw [List.take_append_drop]
    · cases h
theorem one_back {l s : List UInt8} {x : RecB} (h : one l = some (x, s)) : okRec x ∧ l = recB x ++ s := by
  unfold one at h
  cases h1 : fld l with
  | none => rw [h1] at h; cases h
  | some y =>
    obtain ⟨k, r⟩ := y
    rw [h1] at h
    simp only at h
    cases h2 : fld r with
    | none => rw [h2] at h; cases h
    | some z =>
      obtain ⟨v, s2⟩ := z
      rw [h2] at h
      simp only at h
      split at h
      · rename_i hc
        cases h
        have hv : (ByteArray.mk v.toArray).size = v.length := by show v.toArray.size = _; simp
        have hk : (ByteArray.mk k.toArray).size = k.length := by show k.toArray.size = _; simp
        refine ⟨⟨hc.1, by rw [hv]; exact hc.2⟩, ?_⟩
        rw [fld_back h1, fld_back h2]
        unfold recB
        rw [hk, hv]
        simp
      · cases h
theorem dec_back : ∀ (m : Nat) (l : List UInt8) (rs : List RecB), l.length ≤ m → decL l = some rs → (∀ r ∈ rs, okRec r) ∧ textOf rs = l := by
  intro m
  induction m with
  | zero =>
    intro l rs hl h
    obtain rfl : l = [] := List.eq_nil_of_length_eq_zero (by omega)
    rw [decL_nil] at h
    cases h
    exact ⟨by simp, rfl⟩
  | succ m ih =>
    intro l rs hl h
    cases l with
    | nil =>
      rw [decL_nil] at h
      cases h
      exact ⟨by simp, rfl⟩
    | cons c l =>
      cases ho : one (c :: l) with
      | none => rw [decL_none ho] at h; cases h
      | some y =>
        obtain ⟨x, s⟩ := y
        rw [decL_some ho] at h
        have h2 := one_len ho
        obtain ⟨hx, hb⟩ := one_back ho
        cases hd : decL s with
        | none => rw [hd] at h; cases h
        | some rs2 =>
          rw [hd] at h
          cases h
          obtain ⟨i1, i2⟩ := ih s rs2 (by omega) hd
          refine ⟨fun r hr => ?_, ?_⟩
          · rcases List.mem_cons.1 hr with rfl | hr
            · exact hx
            · exact i1 r hr
          · rw [hb, ← i2]; simp [textOf]
theorem none_of_ok {rs : List RecB} (h : ∀ r ∈ rs, okRec r) : rs.findIdx? noKey = none ∧ rs.findIdx? longV = none := by
  rw [List.findIdx?_eq_none_iff, List.findIdx?_eq_none_iff]
  refine ⟨fun r hr => ?_, fun r hr => ?_⟩
  · unfold noKey; rw [(h r hr).1]; rfl
  · unfold longV; have := (h r hr).2; simp; omega
theorem unseal_back {s p : List UInt8} (h : unsealL s = some p) : s = p ++ sumL p := by
  unfold unsealL at h
  split at h
  · rename_i hc
    cases h
    rw [hc.2.2, List.take_append_drop]
  · cases h
theorem content_app (a b : List ByteArray) : contentOf (a ++ b) = contentOf a ++ contentOf b := by simp [contentOf]
theorem content_cons (s : ByteArray) (b : List ByteArray) : contentOf (s :: b) = (unsealL s.data.toList).getD [] ++ contentOf b := by simp [contentOf]
theorem text_ge (rs : List RecB) : rs.length ≤ (textOf rs).length := by
  induction rs with
  | nil => simp
  | cons r rs ih =>
    have e : textOf (r :: rs) = recB r ++ textOf rs := by simp [textOf]
    rw [e, List.length_append, List.length_cons, recB_length]
    omega
theorem content_split (ss : List ByteArray) (j : Nat) (hj : j < ss.length) : contentOf ss = contentOf (ss.take j) ++ ((unsealL ss[j].data.toList).getD [] ++ contentOf (ss.drop (j + 1))) := by
  have : ss = ss.take j ++ (ss[j] :: ss.drop (j + 1)) := by
    rw [← List.drop_eq_getElem_cons hj, List.take_append_drop]
  conv => lhs; rw [this]
  rw [content_app, content_cons]
/-- The blocks that are full, counted. -/
theorem content_full {ss : List ByteArray} (hg : ∀ q (hq : q < ss.length), bad ss[q] = false) (hf : whP ss ss.length) : ∀ j, j < ss.length → (contentOf (ss.take j)).length = j * 60 := by
  intro j
  induction j with
  | zero => intro _; simp [contentOf]
  | succ j ih =>
    intro hj
    rw [List.take_succ_eq_append_getElem (by omega), contentOf_snoc, List.length_append, ih (by omega)]
    obtain ⟨m, hm, h1, h2, _, hu⟩ := good_sum (hg j (by omega))
    have := hf j (by omega) (by omega) hj
    rw [hu, Option.getD_some, List.length_take, size_toList]
    omega
theorem blocks_back {ss : List ByteArray} (hb : ss.findIdx? bad = none) (hf : fullB ss = true) : blocksOf (contentOf ss) = ss := by
  have hg : ∀ q (hq : q < ss.length), bad ss[q] = false := fun q hq => by
    rw [List.findIdx?_eq_none_iff] at hb
    simpa using hb ss[q] (List.getElem_mem hq)
  have hw : whP ss ss.length := (whP_full ss).2 hf
  have hc := content_full hg hw
  have hlen : (blocksOf (contentOf ss)).length = ss.length := by
    rw [blocksOf_length]
    rcases Nat.eq_zero_or_pos ss.length with h0 | h0
    · obtain rfl : ss = [] := List.eq_nil_of_length_eq_zero h0
      rfl
    · have hj : ss.length - 1 < ss.length := by omega
      obtain ⟨m, hm, h1, h2, _, hu⟩ := good_sum (hg _ hj)
      have e := congrArg List.length (content_split ss (ss.length - 1) hj)
      have e0 : contentOf (ss.drop (ss.length - 1 + 1)) = [] := by rw [List.drop_eq_nil_of_le (by omega)]; rfl
      rw [List.length_append, List.length_append, hc _ hj, hu, Option.getD_some, List.length_take, size_toList, e0, List.length_nil] at e
      unfold nB60
      omega
  refine List.ext_getElem hlen fun j h1 h2 => ?_
  obtain ⟨e1, h3⟩ := blocks_get _ j h1
  rw [e1]
  obtain ⟨m, hm, hm1, hm2, _, hu⟩ := good_sum (hg j h2)
  have ep : pieceL (contentOf ss) (j * 60) = ss[j].data.toList.take m := by
    rw [pieceL_eq h3, content_split ss j h2, hu, Option.getD_some, ← hc j h2, List.drop_left]
    have hl : (ss[j].data.toList.take m).length = m := by rw [List.length_take, size_toList]; omega
    by_cases hlast : j + 1 < ss.length
    · have := hw j h2 h2 hlast
      have h60 : (ss[j].data.toList.take m).length = 60 := by omega
      conv => lhs; rw [← h60]
      rw [List.take_left]
    · rw [List.drop_eq_nil_of_le (by omega)]
      simp only [contentOf, List.flatMap_nil, List.append_nil]
      rw [List.take_of_length_le (by omega)]
  have eb : (blockB (contentOf ss) (j * 60)).data.toList = ss[j].data.toList := by
    rw [blockB_list, ep, ← unseal_back hu]
  rw [← ba_of_list eb]
/-- What is read is written. -/
theorem dec_zero {ss : List ByteArray} {rs : List RecB} (h : decA ss = (rs, 0, 0)) : encE rs = (0, 0) ∧ encB rs = ss := by
  unfold decA at h
  cases h1 : ss.findIdx? bad with
  | some i => rw [h1] at h; simp at h
  | none =>
    rw [h1] at h
    simp only at h
    split at h
    · rename_i hf
      cases hd : decL (contentOf ss) with
      | none => rw [hd] at h; simp at h
      | some rs2 =>
        rw [hd] at h
        simp at h
        subst h
        obtain ⟨i1, i2⟩ := dec_back _ _ _ (Nat.le_refl _) hd
        obtain ⟨n1, n2⟩ := none_of_ok i1
        unfold encE encB
        rw [n1, n2]
        refine ⟨rfl, ?_⟩
        show blocksOf (textOf rs2) = ss
        rw [i2, blocks_back h1 hf]
    · simp at h
theorem dec_code {ss : List ByteArray} (h : (decA ss).2.1 = 0) : decA ss = ((decA ss).1, 0, 0) := by
  unfold decA at h ⊢
  cases h1 : ss.findIdx? bad with
  | some i => rw [h1] at h; cases h
  | none =>
    rw [h1] at h
    simp only at h ⊢
    split at h
    · rename_i hf
      rw [if_pos hf]
      cases hd : decL (contentOf ss) with
      | none => rw [hd] at h; cases h
      | some rs2 => rfl
    · cases h
theorem dec_count {ss : List ByteArray} : (decA ss).1.length ≤ ss.length * 60 := by
  unfold decA
  cases h1 : ss.findIdx? bad with
  | some i => simp
  | none =>
    simp only
    split
    · cases hd : decL (contentOf ss) with
      | none => simp
      | some rs =>
        simp only
        obtain ⟨_, i2⟩ := dec_back _ _ _ (Nat.le_refl _) hd
        have h2 := content_len ss
        have h3 := text_ge rs
        rw [i2] at h3
        omega
    · simp
end Go.Proofs.Ytbdnhccjlggpkaa

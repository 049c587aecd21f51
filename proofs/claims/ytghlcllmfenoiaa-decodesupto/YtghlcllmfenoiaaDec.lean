import Derived.Test.YtghlcllmfenoiaaW
namespace Go.Proofs.Ytghlcllmfenoiaa
open Go.RowKit
def bad (s : ByteArray) : Bool := (unsealL s.data.toList).isNone
def contentOf (ss : List ByteArray) : List UInt8 := ss.flatMap fun s => (unsealL s.data.toList).getD []
theorem contentOf_snoc (ss : List ByteArray) (s : ByteArray) : contentOf (ss ++ [s]) = contentOf ss ++ (unsealL s.data.toList).getD [] := by simp [contentOf]
theorem unsealL_len {s p : List UInt8} (h : unsealL s = some p) : 1 ≤ p.length ∧ p.length ≤ 60 ∧ s.length = p.length + 4 := by
  unfold unsealL at h
  split at h
  · rename_i hc; cases h; rw [List.length_take]; omega
  · cases h
theorem content_len (ss : List ByteArray) : (contentOf ss).length ≤ ss.length * 60 := by
  induction ss with
  | nil => simp [contentOf]
  | cons s ss ih =>
    have e : contentOf (s :: ss) = (unsealL s.data.toList).getD [] ++ contentOf ss := by simp [contentOf]
    rw [e, List.length_append, List.length_cons]
    have : ((unsealL s.data.toList).getD []).length ≤ 60 := by
      cases h : unsealL s.data.toList with
      | none => simp
      | some p => exact (unsealL_len h).2.1
    omega
/-- What Decode answers. -/
def decA (ss : List ByteArray) : List RecB × Int × Int :=
  match ss.findIdx? bad with
  | some i => ([], 3, i)
  | none => if fullB ss = true then
      match decL (contentOf ss) with
      | some rs => (rs, 0, 0)
      | none => ([], 4, ss.length)
    else ([], 4, ss.length)
theorem sl_of_owns {w : World} {base : Nat} {v : Value} {l : List UInt8} (h : w.ownsRow base 5 1 v l.length (bytesV l)) : Sl w w.heap.size v l := by
  rcases h.2 with ⟨rfl, h0⟩ | ⟨g, cap, cur, rfl, hb, hh, hn, _, _, _⟩
  · exact Or.inl ⟨rfl, List.eq_nil_of_length_eq_zero h0⟩
  · refine Or.inr ⟨g, 0, cap, rfl, hn, (h.lt g rfl).2, fun j u hj => ?_⟩
    have := h.cells (g := g) rfl j u hj
    have e : (⟨g, 0, none⟩ : Addr).add j = ⟨g, 0 + j, none⟩ := by unfold Addr.add; split <;> simp_all
    rw [← e]; exact this
theorem dec_row {w : World} {base : Nat} {v : Value} {T p : List UInt8} (h : w.ownsRow base 5 1 v (T.length + (ByteArray.mk p.toArray).size) (bytesV T ++ Lib.strCells ⟨p.toArray⟩)) :
    w.ownsRow base 5 1 v (T ++ (some p).getD []).length (bytesV (T ++ (some p).getD [])) := by
  have e1 : (ByteArray.mk p.toArray).size = p.length := by show p.toArray.size = _; simp
  have e2 : Lib.strCells ⟨p.toArray⟩ = bytesV p := by unfold Lib.strCells bytesV; simp
  rw [e1, e2] at h
  rw [Option.getD_some, List.length_append, bytesV_append]
  exact h
set_option maxHeartbeats 1600000 in
theorem dec_e3 (b off c n i : Nat) (ss : List ByteArray) (w : World) (hn : ss.length = n) (hmax : n ≤ 1048576) (hb : b < w.heap.size) (hsz : ∀ s ∈ ss, s.size ≤ 1048576)
    (h1 : ∀ j u, (strs ss)[j]? = some u → w.cell? ⟨b, off + j, none⟩ = some u) (hi : i < n) (hi1 : ∀ q (_ : q < i) (hq : q < ss.length), bad ss[q] = false) (hi2 : ∀ (hq : i < ss.length), bad ss[i] = true) :
    Calls Try.prog 15 #[.slice (some ⟨b, off, none⟩) n c] w fun e w' => e = .returned (.tuple #[.slice none 0 0, .int .i64 3, .int .i64 i]) ∧ Below w.heap.size w w' := by
  obtain ⟨i0, hi0, hz0, hz1, hz2⟩ := info_parts info5
  have H1 : Hid (∀ j u, (strs ss)[j]? = some u → w.cell? ⟨b, off + j, none⟩ = some u) := h1
  have HN : Hid (ss.length = n) := hn
  have HS : Hid (∀ s ∈ ss, s.size ≤ 1048576) := hsz
  have HI1 : Hid (∀ q (_ : q < i) (hq : q < ss.length), bad ss[q] = false) := hi1
  have HI2 : Hid (∀ (hq : i < ss.length), bad ss[i] = true) := hi2
  clear h1 hn hsz hi1 hi2
  go_enter Try.func15, Try.ntmps15
  go_wp2_with fail
  go_loopw [5, 14] (fun v j wr => ∃ k : Nat, k ≤ i ∧ j = .int .i64 k ∧ wr.ownsRow w.heap.size 5 1 v (contentOf (ss.take k)).length (bytesV (contentOf (ss.take k))) ∧ Below w.heap.size w wr) (fun _ j _ => i - (intOf j).toNat)
  case atStart => exact ⟨0, Nat.zero_le _, rfl, World.ownsRow_nil _ _ _ _, Below.refl _ _⟩
  case round =>
    obtain ⟨k, hk, rfl, hown, hbel⟩ := hrel
    have hl : k < ss.length := by have := HN.out; omega
    have c1 := (hbel.cell (p := ⟨b, off + k, none⟩) hb).trans (H1.out k _ (strs_get ss k hl))
    have hs := HS.out ss[k] (List.getElem_mem hl)
    have hi3 : (k : Int) < (n : Int) := by omega
    have hsz := hbel.size
    by_cases hki : k = i
    · subst hki
      have hbd := HI2.out hl
      generalize ss[k] = s at c1 hs hbd
      have HU : Hid (unsealL s.data.toList = none) := by show _ = _; unfold bad at hbd; simpa using hbd
      clear hbd
      go_wp2_with fail
      refine (unseal_none _ hs HU.out).mono ?_
      rintro e w3 ⟨⟨p, rfl⟩, hb3⟩
      have hb4 := hbel.trans (hb3.mono hsz)
      clear hb3 hbel hown c1
      go_wp2_with fail
      go_ret3
      exact ⟨rfl, hb4⟩
    · have hbd := HI1.out k (by omega) hl
      have HT : Hid (contentOf (ss.take (k + 1)) = contentOf (ss.take k) ++ (unsealL ss[k].data.toList).getD []) := by
        show _ = _
        rw [List.take_succ_eq_append_getElem hl, contentOf_snoc]
      have hcl := content_len (ss.take k)
      rw [List.length_take] at hcl
      generalize ss[k] = s at c1 hs hbd HT
      obtain ⟨p, hp⟩ : ∃ p, unsealL s.data.toList = some p := by
        unfold bad at hbd
        cases h : unsealL s.data.toList with
        | none => rw [h] at hbd; cases hbd
        | some p => exact ⟨p, rfl⟩
      have hpl := unsealL_len hp
      have HU : Hid (unsealL s.data.toList = some p) := hp
      clear hp hbd hl
      have hpz : (ByteArray.mk p.toArray).size = p.length := by show p.toArray.size = _; simp
      go_wp2_with fail
      refine (unseal_some _ HU.out).mono ?_
      rintro e w3 ⟨rfl, hb3⟩
      have hb4 := hbel.trans (hb3.mono hsz)
      have hown3 := ownsRow_below hown hb3
      have hsz4 := hb4.size
      clear hb3 hbel hown c1
      go_wp2_with (at_builtin; refine Lib.wpList_append_own_string _ rfl (.tmp 27) (.tmp 28) 55 9 rfl w.heap.size 5 i0 Try.underlying55 Try.underlying9 hi0 hz0 hz1 hz2 _ _ _ rfl hown3 ⟨p.toArray⟩ rfl (by rw [hpz]; unfold maxLen; omega) (by rw [hpz]; omega) hsz4 ?_)
      intro v5 w5 hown5 hg5 _
      have hb5 : Below w.heap.size w w5 := hb4.grown hg5 hsz4 (fun j e => (hown3.lt j e).1)
      clear hown3 hg5 hb4
      go_wp2_with fail
      go_roundw
      case rel =>
        refine ⟨k + 1, by omega, by go_num, ?_, hb5⟩
        rw [HT.out, HU.out]
        exact dec_row hown5
      case measure => simp [intOf]; omega
/-- What Decode answers where every block bears its sum. -/
def DPost (w : World) (ss : List ByteArray) (e : Ending) (w' : World) : Prop :=
  ∃ v', e = .returned (.tuple #[v', .int .i64 (decA ss).2.1, .int .i64 (decA ss).2.2]) ∧ w'.ownsRow w.heap.size 41 2 v' (decA ss).1.length (recCells (decA ss).1) ∧ Below w.heap.size w w'
set_option maxHeartbeats 3200000 in
theorem dec_n (b off c n : Nat) (ss : List ByteArray) (w : World) (hn : ss.length = n) (hmax : n ≤ 1048576) (hcap : n ≤ c) (hb : b < w.heap.size) (hsz : ∀ s ∈ ss, s.size ≤ 1048576)
    (h1 : ∀ j u, (strs ss)[j]? = some u → w.cell? ⟨b, off + j, none⟩ = some u) (hi : ∀ q (hq : q < ss.length), bad ss[q] = false) :
    Calls Try.prog 15 #[.slice (some ⟨b, off, none⟩) n c] w fun e w' => DPost w ss e w' := by
  obtain ⟨i0, hi0, hz0, hz1, hz2⟩ := info_parts info5
  have HF0 : Hid (ss.findIdx? bad = none) := findIdx_miss _ _ hi
  have H1 : Hid (∀ j u, (strs ss)[j]? = some u → w.cell? ⟨b, off + j, none⟩ = some u) := h1
  have HN : Hid (ss.length = n) := hn
  have HS : Hid (∀ s ∈ ss, s.size ≤ 1048576) := hsz
  have HI : Hid (∀ q (hq : q < ss.length), bad ss[q] = false) := hi
  clear h1 hn hsz hi
  go_enter Try.func15, Try.ntmps15
  go_wp2_with fail
  go_loopw [5, 14] (fun v j wr => ∃ k : Nat, k ≤ n ∧ j = .int .i64 k ∧ wr.ownsRow w.heap.size 5 1 v (contentOf (ss.take k)).length (bytesV (contentOf (ss.take k))) ∧ Below w.heap.size w wr) (fun _ j _ => n - (intOf j).toNat)
  case atStart => exact ⟨0, Nat.zero_le _, rfl, World.ownsRow_nil _ _ _ _, Below.refl _ _⟩
  case round =>
    obtain ⟨k, hk, rfl, hown, hbel⟩ := hrel
    have hsz := hbel.size
    by_cases hkn : k < n
    · have hl : k < ss.length := by have := HN.out; omega
      have c1 := (hbel.cell (p := ⟨b, off + k, none⟩) hb).trans (H1.out k _ (strs_get ss k hl))
      have hs := HS.out ss[k] (List.getElem_mem hl)
      have hi3 : (k : Int) < (n : Int) := by omega
      have hbd := HI.out k hl
      have HT : Hid (contentOf (ss.take (k + 1)) = contentOf (ss.take k) ++ (unsealL ss[k].data.toList).getD []) := by
        show _ = _
        rw [List.take_succ_eq_append_getElem hl, contentOf_snoc]
      have hcl := content_len (ss.take k)
      rw [List.length_take] at hcl
      generalize ss[k] = s at c1 hs hbd HT
      obtain ⟨p, hp⟩ : ∃ p, unsealL s.data.toList = some p := by
        unfold bad at hbd
        cases h : unsealL s.data.toList with
        | none => rw [h] at hbd; cases hbd
        | some p => exact ⟨p, rfl⟩
      have hpl := unsealL_len hp
      have HU : Hid (unsealL s.data.toList = some p) := hp
      clear hp hbd hl
      have hpz : (ByteArray.mk p.toArray).size = p.length := by show p.toArray.size = _; simp
      go_wp2_with fail
      refine (unseal_some _ HU.out).mono ?_
      rintro e w3 ⟨rfl, hb3⟩
      have hb4 := hbel.trans (hb3.mono hsz)
      have hown3 := ownsRow_below hown hb3
      have hsz4 := hb4.size
      clear hb3 hbel hown c1
      go_wp2_with (at_builtin; refine Lib.wpList_append_own_string _ rfl (.tmp 27) (.tmp 28) 55 9 rfl w.heap.size 5 i0 Try.underlying55 Try.underlying9 hi0 hz0 hz1 hz2 _ _ _ rfl hown3 ⟨p.toArray⟩ rfl (by rw [hpz]; unfold maxLen; omega) (by rw [hpz]; omega) hsz4 ?_)
      intro v5 w5 hown5 hg5 _
      have hb5 : Below w.heap.size w w5 := hb4.grown hg5 hsz4 (fun j e => (hown3.lt j e).1)
      clear hown3 hg5 hb4
      go_wp2_with fail
      go_roundw
      case rel =>
        refine ⟨k + 1, by omega, by go_num, ?_, hb5⟩
        rw [HT.out, HU.out]
        exact dec_row hown5
      case measure => simp [intOf]; omega
    · have et : ss.take k = ss := List.take_of_length_le (by have := HN.out; omega)
      rw [et] at hown
      clear et
      have hcl := content_len ss
      have hrl := HN.out
      have hT : (contentOf ss).length ≤ 268435456 := by omega
      have HR : Hid (Rd wr w.heap.size (.slice (some ⟨b, off, none⟩) n c) n (strs ss)) :=
        Rd.below (w := w) ⟨_, c, rfl, hcap, Or.inr ⟨b, off, rfl, hb, H1.out⟩⟩ hbel
      clear hcl hrl
      cases hfu : fullB ss
      · have HA : Hid (decA ss = ([], 4, (ss.length : Int))) := by show _ = _; unfold decA; rw [HF0.out, hfu]; rfl
        go_wp2_with fail
        refine (full_any HN.out hmax HR.out).mono ?_
        rintro e w3 ⟨rfl, rfl⟩
        go_wp2_with fail
        go_ret3
        unfold DPost
        rw [HA.out, HN.out]
        exact ⟨_, rfl, World.ownsRow_nil _ _ _ _, hbel⟩
      · have hsl := sl_of_owns hown
        cases hde : decL (contentOf ss) with
        | none =>
          have HA : Hid (decA ss = ([], 4, (ss.length : Int))) := by show _ = _; unfold decA; rw [HF0.out, hfu, if_pos rfl, hde]
          have HD : Hid (decL (contentOf ss) = none) := hde
          clear hde
          go_wp2_with fail
          refine (full_any HN.out hmax HR.out).mono ?_
          rintro e w3 ⟨rfl, rfl⟩
          go_wp2_with fail
          refine (readRecords_any (Nat.le_refl _) hT hsl).mono ?_
          rw [HD.out]
          rintro e w4 ⟨rfl, hb4⟩
          have hb5 := hbel.trans (hb4.mono hsz)
          clear hb4
          go_wp2_with fail
          go_ret3
          unfold DPost
          rw [HA.out, HN.out]
          exact ⟨_, rfl, World.ownsRow_nil _ _ _ _, hb5⟩
        | some rs =>
          have HA : Hid (decA ss = (rs, 0, 0)) := by show _ = _; unfold decA; rw [HF0.out, hfu, if_pos rfl, hde]
          have HD : Hid (decL (contentOf ss) = some rs) := hde
          clear hde
          go_wp2_with fail
          refine (full_any HN.out hmax HR.out).mono ?_
          rintro e w3 ⟨rfl, rfl⟩
          go_wp2_with fail
          refine (readRecords_any (Nat.le_refl _) hT hsl).mono ?_
          rw [HD.out]
          rintro e w4 ⟨v4, rfl, hown4, hb4⟩
          have hb5 := hbel.trans (hb4.mono hsz)
          obtain ⟨av, cv, rfl⟩ : ∃ a c, v4 = .slice a rs.length c := by
            rcases hown4.2 with ⟨rfl, h⟩ | ⟨g, cap, cur, rfl, _⟩
            · exact ⟨none, 0, by rw [h]⟩
            · exact ⟨_, _, rfl⟩
          clear hb4
          go_wp2_with fail
          go_ret3
          unfold DPost
          rw [HA.out]
          exact ⟨_, rfl, ownsRow_base hown4 hsz, hb5⟩
end Go.Proofs.Ytghlcllmfenoiaa

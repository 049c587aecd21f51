import Derived.Test.YtbdnhccjlggpkaaW
namespace Go.Proofs.Ytbdnhccjlggpkaa
open Go.RowKit
def bad (s : ByteArray) : Bool := (unsealL s.data.toList).isNone
def contentOf (ss : List ByteArray) : List UInt8 := ss.flatMap fun s => (unsealL s.data.toList).getD []
theorem contentOf_snoc (ss : List ByteArray) (s : ByteArray) : contentOf (ss ++ [s]) = contentOf ss ++ (unsealL s.data.toList).getD [] := by simp [contentOf]
theorem unsealL_len {s p : List UInt8} (h : unsealL s = some p) : 1 ≤ p.length ∧ p.length ≤ 60 ∧ s.length = p.length + 4 := by
  unfold unsealL at h
  split at h
  · rename_i hc; cases h; rw [List.length_take]; omega
  · cases h
theorem content_len (ss : List ByteArray) : (contentOf ss).length ≤ ss.length * 60 := by
  induction ss with
  | nil => simp [contentOf]
  | cons s ss ih =>
    have e : contentOf (s :: ss) = (unsealL s.data.toList).getD [] ++ contentOf ss := by simp [contentOf]
    rw [e, List.length_append, List.length_cons]
    have : ((unsealL s.data.toList).getD []).length ≤ 60 := by
      cases h : unsealL s.data.toList with
      | none => simp
      | some p => exact (unsealL_len h).2.1
    omega
/-- What Decode answers. -/
def decA (ss : List ByteArray) : List RecB × Int × Int :=
  match ss.findIdx? bad with
  | some i => ([], 3, i)
  | none => if fullB ss = true then
      match decL (contentOf ss) with
      | some rs => (rs, 0, 0)
      | none => ([], 4, ss.length)
    else ([], 4, ss.length)
/-- The piece of a block. -/
def pcOf (s : ByteArray) : Pc := ⟨⟨((unsealL s.data.toList).getD []).toArray⟩, by
  show ((unsealL s.data.toList).getD []).toArray.size ≤ 60
  cases h : unsealL s.data.toList with
  | none => simp
  | some p => have := (unsealL_len h).2.1; simpa using this⟩
def pcs (ss : List ByteArray) : List ByteArray := ss.map fun s => (pcOf s).1
theorem pcs_length (ss : List ByteArray) : (pcs ss).length = ss.length := by simp [pcs]
theorem pcs_snoc (ss : List ByteArray) (s : ByteArray) {p : List UInt8} (h : unsealL s.data.toList = some p) : strs (pcs (ss ++ [s])) = strs (pcs ss) ++ [.string ⟨p.toArray⟩] := by
  have e : (pcOf s).1 = ⟨p.toArray⟩ := by unfold pcOf; simp [h]
  unfold pcs strs
  rw [List.map_append, List.map_append, List.map_singleton, List.map_singleton, e]
theorem pcs_val (ss : List ByteArray) : (ss.map pcOf).map (·.1) = pcs ss := by simp [pcs]
theorem lists_pcs (ss : List ByteArray) : lists (ss.map pcOf) = ss.map fun s => (unsealL s.data.toList).getD [] := by
  unfold lists
  rw [List.map_map]
  rfl
theorem lists_content (ss : List ByteArray) : (lists (ss.map pcOf)).flatten = contentOf ss := by
  rw [lists_pcs]; rfl
theorem full_iff : ∀ (ss : List ByteArray), (∀ q (hq : q < ss.length), bad ss[q] = false) → (fullP (lists (ss.map pcOf)) ↔ fullB ss = true)
  | [], _ => by simp [lists, fullP, fullB]
  | [s], _ => by simp [lists, fullP, fullB]
  | s :: t :: ss, hi => by
    have ih := full_iff (t :: ss) (fun q hq => by have := hi (q + 1) (by rw [List.length_cons]; omega); simpa using this)
    have hb := hi 0 (by simp)
    rw [List.getElem_cons_zero] at hb
    obtain ⟨p, hp⟩ : ∃ p, unsealL s.data.toList = some p := by
      unfold bad at hb
      cases h : unsealL s.data.toList with
      | none => rw [h] at hb; cases hb
      | some p => exact ⟨p, rfl⟩
    have hl := unsealL_len hp
    have hz : s.data.toList.length = s.size := rfl
    rw [lists_pcs] at ih ⊢
    simp only [List.map_cons, fullP] at ih ⊢
    rw [ih, hp, Option.getD_some]
    have e : fullB (s :: t :: ss) = ((s.size == 64) && fullB (t :: ss)) := rfl
    rw [e, Bool.and_eq_true, beq_iff_eq]
    constructor
    · rintro ⟨h1, h2⟩; exact ⟨by omega, h2⟩
    · rintro ⟨h1, h2⟩; exact ⟨by omega, h2⟩
theorem ans_good {ss : List ByteArray} (hi : ∀ q (hq : q < ss.length), bad ss[q] = false) : ans (lists (ss.map pcOf)) = if fullB ss = true then decL (contentOf ss) else none := by
  by_cases hf : fullB ss = true
  · rw [if_pos hf, ans_pos ((full_iff ss hi).2 hf), lists_content]
  · rw [if_neg hf, ans_neg (fun h => hf ((full_iff ss hi).1 h))]
set_option maxHeartbeats 1600000 in
theorem dec_e3 (b off c n i : Nat) (ss : List ByteArray) (w : World) (hn : ss.length = n) (hmax : n ≤ 1048576) (hb : b < w.heap.size) (hsz : ∀ s ∈ ss, s.size ≤ 1048576)
    (h1 : ∀ j u, (strs ss)[j]? = some u → w.cell? ⟨b, off + j, none⟩ = some u) (hi : i < n) (hi1 : ∀ q (_ : q < i) (hq : q < ss.length), bad ss[q] = false) (hi2 : ∀ (hq : i < ss.length), bad ss[i] = true) :
    Calls Try.prog 15 #[.slice (some ⟨b, off, none⟩) n c] w fun e w' => e = .returned (.tuple #[.slice none 0 0, .int .i64 3, .int .i64 i]) ∧ Below w.heap.size w w' := by
  obtain ⟨i0, hi0, hz0, hz1, hz2⟩ := info_parts info9
  have H1 : Hid (∀ j u, (strs ss)[j]? = some u → w.cell? ⟨b, off + j, none⟩ = some u) := h1
  have HN : Hid (ss.length = n) := hn
  have HS : Hid (∀ s ∈ ss, s.size ≤ 1048576) := hsz
  have HI1 : Hid (∀ q (_ : q < i) (hq : q < ss.length), bad ss[q] = false) := hi1
  have HI2 : Hid (∀ (hq : i < ss.length), bad ss[i] = true) := hi2
  clear h1 hn hsz hi1 hi2
  go_enter Try.func15, Try.ntmps15
  go_wp2_with fail
  go_loopw [5, 14] (fun v j wr => ∃ k : Nat, k ≤ i ∧ j = .int .i64 k ∧ wr.ownsRow w.heap.size 9 1 v k (strs (pcs (ss.take k))) ∧ Below w.heap.size w wr) (fun _ j _ => i - (intOf j).toNat)
  case atStart => exact ⟨0, Nat.zero_le _, rfl, World.ownsRow_nil _ _ _ _, Below.refl _ _⟩
  case round =>
    obtain ⟨k, hk, rfl, hown, hbel⟩ := hrel
    have hl : k < ss.length := by have := HN.out; omega
    have c1 := (hbel.cell (p := ⟨b, off + k, none⟩) hb).trans (H1.out k _ (strs_get ss k hl))
    have hs := HS.out ss[k] (List.getElem_mem hl)
    have hi3 : (k : Int) < (n : Int) := by omega
    have hsz := hbel.size
    by_cases hki : k = i
    · subst hki
      have hbd := HI2.out hl
      generalize ss[k] = s at c1 hs hbd
      have HU : Hid (unsealL s.data.toList = none) := by show _ = _; unfold bad at hbd; simpa using hbd
      clear hbd
      go_wp2_with fail
      refine (unseal_none _ hs HU.out).mono ?_
      rintro e w3 ⟨⟨p, rfl⟩, hb3⟩
      have hb4 := hbel.trans (hb3.mono hsz)
      clear hb3 hbel hown c1
      go_wp2_with fail
      go_ret3
      exact ⟨rfl, hb4⟩
    · skip
      have hbd := HI1.out k (by omega) hl
      have HT : Hid (∀ p, unsealL ss[k].data.toList = some p → strs (pcs (ss.take (k + 1))) = strs (pcs (ss.take k)) ++ [.string ⟨p.toArray⟩]) := fun p hp => by
        rw [List.take_succ_eq_append_getElem hl]; exact pcs_snoc _ _ hp
      generalize ss[k] = s at c1 hs hbd HT
      obtain ⟨p, hp⟩ : ∃ p, unsealL s.data.toList = some p := by
        unfold bad at hbd
        cases h : unsealL s.data.toList with
        | none => rw [h] at hbd; cases hbd
        | some p => exact ⟨p, rfl⟩
      have HU : Hid (unsealL s.data.toList = some p) := hp
      clear hp hbd hl
      go_wp2_with fail
      refine (unseal_some _ HU.out).mono ?_
      rintro e w3 ⟨rfl, hb3⟩
      have hb4 := hbel.trans (hb3.mono hsz)
      have hown3 := ownsRow_below hown hb3
      have hsz4 := hb4.size
      clear hb3 hbel hown c1
      go_wp2_with (at_builtin; refine wpList_append_own _ rfl (.tmp 27) (.tmp 29) 28 rfl w.heap.size 9 i0 _ 1 16 Try.underlying28 hi0 hz0 hz1 hz2 rfl (by decide) _ k _ rfl (hown3.alloc _) ⟨w3.heap.size, 0, none⟩ 1 1 [.string ⟨p.toArray⟩] rfl rfl (one_new w3 _ 9) (by simp [Value.oneCell']) (by unfold maxLen; omega) (by omega) (by simp; omega) ?_)
      intro v5 w5 hown5 hg5 _
      have hb5 : Below w.heap.size w w5 := (hb4.alloc hsz4 _).grown hg5 (by simp; omega) (fun j e => (hown3.lt j e).1)
      clear hown3 hg5 hb4
      go_wp2_with fail
      go_roundw
      case rel =>
        refine ⟨k + 1, by omega, by go_num, ?_, hb5⟩
        rw [HT.out p HU.out]
        exact hown5
      case measure => simp [intOf]; omega
/-- What Decode answers where every block bears its sum. -/
def DPost (w : World) (ss : List ByteArray) (e : Ending) (w' : World) : Prop :=
  ∃ v', e = .returned (.tuple #[v', .int .i64 (decA ss).2.1, .int .i64 (decA ss).2.2]) ∧ w'.ownsRow w.heap.size 41 2 v' (decA ss).1.length (recCells (decA ss).1) ∧ Below w.heap.size w w'
set_option maxHeartbeats 3200000 in
theorem dec_n (b off c n : Nat) (ss : List ByteArray) (w : World) (hn : ss.length = n) (hmax : n ≤ 1048576) (hb : b < w.heap.size) (hsz : ∀ s ∈ ss, s.size ≤ 1048576)
    (h1 : ∀ j u, (strs ss)[j]? = some u → w.cell? ⟨b, off + j, none⟩ = some u) (hi : ∀ q (hq : q < ss.length), bad ss[q] = false) :
    Calls Try.prog 15 #[.slice (some ⟨b, off, none⟩) n c] w fun e w' => DPost w ss e w' := by
  obtain ⟨i0, hi0, hz0, hz1, hz2⟩ := info_parts info9
  have HF0 : Hid (ss.findIdx? bad = none) := findIdx_miss _ _ hi
  have HG : Hid (ans (lists (ss.map pcOf)) = if fullB ss = true then decL (contentOf ss) else none) := ans_good hi
  have H1 : Hid (∀ j u, (strs ss)[j]? = some u → w.cell? ⟨b, off + j, none⟩ = some u) := h1
  have HN : Hid (ss.length = n) := hn
  have HS : Hid (∀ s ∈ ss, s.size ≤ 1048576) := hsz
  have HI : Hid (∀ q (hq : q < ss.length), bad ss[q] = false) := hi
  clear h1 hn hsz hi
  go_enter Try.func15, Try.ntmps15
  go_wp2_with fail
  go_loopw [5, 14] (fun v j wr => ∃ k : Nat, k ≤ n ∧ j = .int .i64 k ∧ wr.ownsRow w.heap.size 9 1 v k (strs (pcs (ss.take k))) ∧ Below w.heap.size w wr) (fun _ j _ => n - (intOf j).toNat)
  case atStart => exact ⟨0, Nat.zero_le _, rfl, World.ownsRow_nil _ _ _ _, Below.refl _ _⟩
  case round =>
    obtain ⟨k, hk, rfl, hown, hbel⟩ := hrel
    have hsz := hbel.size
    by_cases hkn : k < n
    · have hl : k < ss.length := by have := HN.out; omega
      have c1 := (hbel.cell (p := ⟨b, off + k, none⟩) hb).trans (H1.out k _ (strs_get ss k hl))
      have hs := HS.out ss[k] (List.getElem_mem hl)
      have hi3 : (k : Int) < (n : Int) := by omega
      have hbd := HI.out k hl
      have HT : Hid (∀ p, unsealL ss[k].data.toList = some p → strs (pcs (ss.take (k + 1))) = strs (pcs (ss.take k)) ++ [.string ⟨p.toArray⟩]) := fun p hp => by
        rw [List.take_succ_eq_append_getElem hl]; exact pcs_snoc _ _ hp
      generalize ss[k] = s at c1 hs hbd HT
      obtain ⟨p, hp⟩ : ∃ p, unsealL s.data.toList = some p := by
        unfold bad at hbd
        cases h : unsealL s.data.toList with
        | none => rw [h] at hbd; cases hbd
        | some p => exact ⟨p, rfl⟩
      have HU : Hid (unsealL s.data.toList = some p) := hp
      clear hp hbd hl
      go_wp2_with fail
      refine (unseal_some _ HU.out).mono ?_
      rintro e w3 ⟨rfl, hb3⟩
      have hb4 := hbel.trans (hb3.mono hsz)
      have hown3 := ownsRow_below hown hb3
      have hsz4 := hb4.size
      clear hb3 hbel hown c1
      go_wp2_with (at_builtin; refine wpList_append_own _ rfl (.tmp 27) (.tmp 29) 28 rfl w.heap.size 9 i0 _ 1 16 Try.underlying28 hi0 hz0 hz1 hz2 rfl (by decide) _ k _ rfl (hown3.alloc _) ⟨w3.heap.size, 0, none⟩ 1 1 [.string ⟨p.toArray⟩] rfl rfl (one_new w3 _ 9) (by simp [Value.oneCell']) (by unfold maxLen; omega) (by omega) (by simp; omega) ?_)
      intro v5 w5 hown5 hg5 _
      have hb5 : Below w.heap.size w w5 := (hb4.alloc hsz4 _).grown hg5 (by simp; omega) (fun j e => (hown3.lt j e).1)
      clear hown3 hg5 hb4
      go_wp2_with fail
      go_roundw
      case rel =>
        refine ⟨k + 1, by omega, by go_num, ?_, hb5⟩
        rw [HT.out p HU.out]
        exact hown5
      case measure => simp [intOf]; omega
    · have et : ss.take k = ss := List.take_of_length_le (by have := HN.out; omega)
      obtain rfl : k = n := by omega
      rw [et] at hown
      clear et
      have hrd := rd_of_owns hown
      rw [← pcs_val] at hrd
      have hrr := readRecords_any (Nat.le_refl _) (by rw [List.length_map]; exact HN.out) hmax hrd
      rw [HG.out] at hrr
      have hni : ¬ (k : Int) < (k : Int) := by omega
      clear hrd hown
      cases hde : (if fullB ss = true then decL (contentOf ss) else none) with
      | none =>
        have HA : Hid (decA ss = ([], 4, (ss.length : Int))) := by
          show _ = _
          unfold decA
          rw [HF0.out]
          split at hde
          · rename_i hf; simp only; rw [if_pos hf, hde]
          · rename_i hf; simp only; rw [if_neg hf]
        rw [hde] at hrr
        clear hde
        go_wp2_with fail
        refine hrr.mono ?_
        rintro e w4 ⟨rfl, hb4⟩
        have hb5 := hbel.trans (hb4.mono hsz)
        clear hb4 hrr
        go_wp2_with fail
        go_ret3
        unfold DPost
        rw [HA.out, HN.out]
        exact ⟨_, rfl, World.ownsRow_nil _ _ _ _, hb5⟩
      | some rs =>
        have HA : Hid (decA ss = (rs, 0, 0)) := by
          show _ = _
          unfold decA
          rw [HF0.out]
          split at hde
          · rename_i hf; simp only; rw [if_pos hf, hde]
          · cases hde
        rw [hde] at hrr
        clear hde
        go_wp2_with fail
        refine hrr.mono ?_
        rintro e w4 ⟨v4, rfl, hown4, hb4⟩
        have hb5 := hbel.trans (hb4.mono hsz)
        obtain ⟨av, cv, rfl⟩ : ∃ a c, v4 = .slice a rs.length c := by
          rcases hown4.2 with ⟨rfl, h⟩ | ⟨g, cap, cur, rfl, _⟩
          · exact ⟨none, 0, by rw [h]⟩
          · exact ⟨_, _, rfl⟩
        clear hb4 hrr
        go_wp2_with fail
        go_ret3
        unfold DPost
        rw [HA.out]
        exact ⟨_, rfl, ownsRow_base hown4 hsz, hb5⟩
end Go.Proofs.Ytbdnhccjlggpkaa

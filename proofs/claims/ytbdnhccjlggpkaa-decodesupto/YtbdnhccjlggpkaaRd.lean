import Derived.Test.YtbdnhccjlggpkaaMth
namespace Go.Proofs.Ytbdnhccjlggpkaa
open Go.RowKit
/-- 'Every block so far is full, or the last one.' -/
def whP (ss : List ByteArray) (k : Nat) : Prop := ∀ j (_ : j < k) (hl : j < ss.length), j + 1 < ss.length → ss[j].size = 64
theorem whP_full (ss : List ByteArray) : whP ss ss.length ↔ fullB ss = true := by
  unfold whP fullB
  rw [List.all_eq_true]
  constructor
  · intro h x hx
    obtain ⟨j, hj, rfl⟩ := List.mem_iff_getElem.1 hx
    rw [List.getElem_dropLast]
    rw [List.length_dropLast] at hj
    simpa using h j (by omega) (by omega) (by omega)
  · intro h j _ hl h2
    have := h (ss.dropLast[j]'(by rw [List.length_dropLast]; omega)) (List.getElem_mem _)
    rw [List.getElem_dropLast] at this
    simpa using this
theorem whP_succ {ss : List ByteArray} {k : Nat} (hk : k < ss.length) : whP ss (k + 1) ↔ whP ss k ∧ (ss[k].size = 64 ∨ k + 1 = ss.length) := by
  unfold whP
  constructor
  · intro h
    refine ⟨fun j hj hl h2 => h j (by omega) hl h2, ?_⟩
    rcases Nat.lt_or_ge (k + 1) ss.length with h1 | h1
    · exact Or.inl (h k (by omega) hk h1)
    · exact Or.inr (by omega)
  · rintro ⟨h1, h2⟩ j hj hl h3
    by_cases e : j = k
    · subst e
      rcases h2 with h2 | h2
      · exact h2
      · omega
    · exact h1 j (by omega) hl h3
/-- The reference's tests of one record. -/
theorem one_e1 {l : List UInt8} {c : UInt8} (h : 40 < c.toNat ∨ (c :: l).length ≤ 1 + c.toNat) : one (c :: l) = none := by
  unfold one
  rw [fld_cons]
  by_cases h1 : c.toNat ≤ l.length
  · rw [if_pos h1]
    simp only
    rcases h with h | h
    · cases hf : fld (l.drop c.toNat) with
      | none => rfl
      | some y =>
        obtain ⟨v, s⟩ := y
        simp only
        rw [if_neg]
        rintro ⟨hk, _⟩
        have := (isKey_len hk).2
        rw [List.length_take] at this
        omega
    · rw [List.length_cons] at h
      rw [List.drop_eq_nil_of_le (by omega)]
      rfl
  · rw [if_neg h1]
theorem one_mid {l s : List UInt8} {c d : UInt8} (h1 : c.toNat < l.length) (hd : l.drop c.toNat = d :: s) :
    one (c :: l) = if d.toNat ≤ s.length then (if isKeyL (l.take c.toNat) = true ∧ d.toNat ≤ 100 then some ((⟨(l.take c.toNat).toArray⟩, ⟨(s.take d.toNat).toArray⟩), s.drop d.toNat) else none) else none := by
  unfold one
  rw [fld_cons, if_pos (by omega)]
  simp only
  rw [hd, fld_cons]
  by_cases h2 : d.toNat ≤ s.length
  · rw [if_pos h2, if_pos h2]
    simp only
    rw [List.length_take, Nat.min_eq_left h2]
  · rw [if_neg h2, if_neg h2]
theorem drop_at {l : List UInt8} {k : Nat} (h : k < l.length) : l.drop k = l[k] :: l.drop (k + 1) := List.drop_eq_getElem_cons h
theorem extract_tail {s : ByteArray} {m : Nat} (hm : s.size = m + 4) : (s.extract m (m + 4)).toList = s.data.toList.drop m := by
  rw [ByteArray.toList_eq]
  simp
  rw [List.take_of_length_le (by rw [List.length_drop, Array.length_toList]; show s.size - m ≤ 4; omega)]
theorem bad_sum {s : ByteArray} {m : Nat} (hm : s.size = m + 4) (h1 : 1 ≤ m) (h2 : m ≤ 60) (hb : bad s = true) : (sumL (s.data.toList.take m) == (s.extract m (m + 4)).toList) = false := by
  rw [extract_tail hm, beq_eq_false_iff_ne]
  intro e
  have hl : s.data.toList.length = m + 4 := hm
  unfold bad unsealL at hb
  rw [hl, Nat.add_sub_cancel, if_pos ⟨by omega, by omega, e⟩] at hb
  cases hb
theorem good_sum {s : ByteArray} (hb : bad s = false) : ∃ m, s.size = m + 4 ∧ 1 ≤ m ∧ m ≤ 60 ∧ (sumL (s.data.toList.take m) == (s.extract m (m + 4)).toList) = true ∧ unsealL s.data.toList = some (s.data.toList.take m) := by
  unfold bad at hb
  cases h : unsealL s.data.toList with
  | none => rw [h] at hb; cases hb
  | some p =>
    have h' := h
    unfold unsealL at h'
    split at h'
    · rename_i hc
      have hl : s.data.toList.length = s.size := rfl
      rw [hl] at hc h'
      refine ⟨s.size - 4, by omega, by omega, by omega, ?_, ?_⟩
      · rw [extract_tail (by omega)]; simpa using hc.2.2
      · exact h'.symm
    · cases h'
theorem info52 : (Try.prog.info? 52).map (fun i => (i.zero, i.size, i.bytes)) = some (some (.agg #[.string ByteArray.empty, .string ByteArray.empty]), 2, 32) := by kernel_rfl
/-- What is known of the reference's Decode behind k good blocks. -/
structure R1 (ss : List ByteArray) (k : Nat) (S : ByteArray) (bb : Bool) : Prop where
  size : S.size ≤ k * 60
  text : S.data.toList = contentOf (ss.take k)
  whole : bb = true ↔ whP ss k
  good : ∀ q (_ : q < k) (hq : q < ss.length), bad ss[q] = false
theorem r1_start (ss : List ByteArray) : R1 ss 0 ⟨#[]⟩ true := ⟨Nat.le_refl _, rfl, ⟨fun _ _ hj => absurd hj (Nat.not_lt_zero _), fun _ => rfl⟩, fun _ hq => absurd hq (Nat.not_lt_zero _)⟩
theorem r1_bad {ss : List ByteArray} {k : Nat} {S : ByteArray} {bb : Bool} (h : R1 ss k S bb) (hk : k < ss.length) (hb : bad ss[k] = true) : decA ss = ([], 3, (k : Int)) := by
  have : ss.findIdx? bad = some k := List.findIdx?_eq_some_iff_getElem.2 ⟨hk, hb, fun j hj => by have := h.good j hj (by omega); simpa using this⟩
  unfold decA
  rw [this]
theorem r1_next {ss : List ByteArray} {k m : Nat} {S s : ByteArray} {bb : Bool} (h : R1 ss k S bb) (hk : k < ss.length) (e : ss[k] = s) (hb : bad s = false) (hm : s.size = m + 4) (h2 : m ≤ 60) (hu : unsealL s.data.toList = some (s.data.toList.take m)) {b' : Bool} (hw : b' = true ↔ bb = true ∧ (m = 60 ∨ k + 1 = ss.length)) {S' : ByteArray} (hS : S' = S ++ s.extract 0 m) : R1 ss (k + 1) S' b' := by
  subst hS
  subst e
  refine ⟨?_, ?_, ?_, ?_⟩
  · have := h.size
    rw [ByteArray.size_append, ByteArray.size_extract]
    omega
  · rw [List.take_succ_eq_append_getElem hk, contentOf_snoc, hu, ← h.text]
    simp
  · rw [hw, h.whole, whP_succ hk]
    constructor
    · rintro ⟨a, b | b⟩
      · exact ⟨a, Or.inl (by omega)⟩
      · exact ⟨a, Or.inr b⟩
    · rintro ⟨a, b | b⟩
      · exact ⟨a, Or.inl (by omega)⟩
      · exact ⟨a, Or.inr b⟩
  · intro q hq hl
    by_cases e : q = k
    · subst e; exact hb
    · exact h.good q (by omega) hl
theorem r1_end {ss : List ByteArray} {k : Nat} {S : ByteArray} {bb : Bool} (h : R1 ss k S bb) (hk : k = ss.length) : S.data.toList = contentOf ss ∧ bb = fullB ss ∧ ss.findIdx? bad = none := by
  subst hk
  refine ⟨by rw [h.text, List.take_length], ?_, findIdx_miss _ _ fun q hq => h.good q hq hq⟩
  have h1 := h.whole.trans (whP_full ss)
  cases bb <;> cases hf : fullB ss <;> simp_all
def DPostR (w : World) (ss : List ByteArray) (e : Ending) (w' : World) : Prop :=
  ∃ v', e = .returned (.tuple #[v', .int .i64 (decA ss).2.1, .int .i64 (decA ss).2.2]) ∧ w'.ownsRow w.heap.size 52 2 v' (decA ss).1.length (recCells (decA ss).1) ∧ Below w.heap.size w w'
theorem dpr_err {w w' : World} {ss : List ByteArray} {a b : Int} (h : decA ss = ([], a, b)) (hb : Below w.heap.size w w') : DPostR w ss (.returned (.tuple #[.slice none 0 0, .int .i64 a, .int .i64 b])) w' := by
  unfold DPostR
  rw [h]
  exact ⟨_, rfl, World.ownsRow_nil _ _ _ _, hb⟩
theorem shapeR {w : World} {base : Nat} {e : TypeId} {size : Nat} {v : Value} {n : Nat} {xs : List Value} (h : w.ownsRow base e size v n xs) : ∃ a c, v = .slice a n c := by
  rcases h.2 with ⟨rfl, h'⟩ | ⟨g, cap, cur, rfl, _⟩
  · exact ⟨none, 0, by rw [h']⟩
  · exact ⟨_, _, rfl⟩
theorem get_toList (T : ByteArray) (i : Nat) (h : i < T.size) : T[i] = T.data.toList[i]'h := by
  cases T; rfl
theorem size_toList (T : ByteArray) : T.data.toList.length = T.size := rfl
theorem extract_list (T : ByteArray) (i j : Nat) : (T.extract i j).data.toList = (T.data.toList.drop i).take (j - i) := by
  simp
theorem ba_of_list {T : ByteArray} {l : List UInt8} (h : T.data.toList = l) : ByteArray.mk l.toArray = T := by
  subst h
  cases T
  simp
theorem one_at {T : ByteArray} {c y : UInt8} {r s : List UInt8} {a d : Nat} (hT : T.data.toList = c :: r) (ha : c.toNat = a) (hdr : r.drop c.toNat = y :: s) (hd : y.toNat = d) (hrl : c.toNat < r.length) (h100 : d ≤ 100) (h2 : 2 + a + d ≤ T.size) :
    one (c :: r) = if isKeyL (T.extract 1 (1 + a)).data.toList = true then some ((T.extract 1 (1 + a), T.extract (2 + a) (2 + a + d)), (T.extract (2 + a + d) T.size).data.toList) else none := by
  have hz : T.size = r.length + 1 := by rw [← size_toList, hT]; rfl
  have hsl : s.length + 1 + a = r.length := by have := congrArg List.length hdr; rw [List.length_drop, List.length_cons] at this; omega
  have e1 : (T.extract 1 (1 + a)).data.toList = r.take a := by rw [extract_list, hT]; simp
  have es : s = r.drop (a + 1) := by
    have := congrArg (List.drop 1) hdr
    rw [List.drop_drop, ha] at this
    simpa [Nat.add_comm] using this.symm
  have e2 : (T.extract (2 + a) (2 + a + d)).data.toList = s.take d := by
    rw [extract_list, hT, es, Nat.add_sub_cancel_left, show 2 + a = (a + 1) + 1 by omega, List.drop_succ_cons]
  have e3 : (T.extract (2 + a + d) T.size).data.toList = s.drop d := by
    rw [extract_list, hT, es, List.drop_drop, show 2 + a + d = (a + 1 + d) + 1 by omega, List.drop_succ_cons, List.take_of_length_le (by rw [List.length_drop]; omega)]
  rw [one_mid hrl hdr, hd, ha, if_pos (by omega), e1, e3, ← ba_of_list e1, ← ba_of_list e2]
  by_cases h : isKeyL (r.take a) = true
  · rw [if_pos ⟨h, h100⟩, if_pos h]
  · rw [if_neg (fun x => h x.1), if_neg h]
theorem rd_next {w wr W2 w3 : World} {S T : ByteArray} {acc : List RecB} {x : RecB} {s' : List UInt8} {c : UInt8} {r : List UInt8} {v v' : Value} (hT : T.data.toList = c :: r) (hD : decL S.data.toList = (decL T.data.toList).map (acc ++ ·)) (ho : one (c :: r) = some (x, s')) {T' : ByteArray} (e : T'.data.toList = s') (hlen : acc.length + T.size ≤ S.size)
    (hown : wr.ownsRow w.heap.size 52 2 v acc.length (recCells acc)) (hb : Below w.heap.size w W2) (hown3 : w3.ownsRow w.heap.size 52 2 v' (acc.length + 1) (recCells acc ++ [.string x.1, .string x.2])) (hg : W2.grownBy w3 v.ownBlock) :
    w3.ownsRow w.heap.size 52 2 v' (acc ++ [x]).length (recCells (acc ++ [x])) ∧ Below w.heap.size w w3 ∧ (acc ++ [x]).length + T'.size ≤ S.size ∧ decL S.data.toList = (decL T'.data.toList).map ((acc ++ [x]) ++ ·) ∧ T'.size < T.size := by
  have h2 := one_len ho
  have e1 : T'.size = s'.length := by rw [← size_toList, e]
  have e2 : T.size = (c :: r).length := by rw [← size_toList, hT]
  refine ⟨?_, hb.grown hg hb.size (fun i e => (hown.lt i e).1), ?_, ?_, by omega⟩
  · rw [recCells_append, List.length_append]; exact hown3
  · rw [List.length_append, List.length_singleton]; omega
  · rw [hD, hT, decL_some ho, e]
    cases decL s' <;> simp
theorem dpr_ok {w w' : World} {ss : List ByteArray} {rs : List RecB} {v : Value} (h : decA ss = (rs, 0, 0)) (ho : w'.ownsRow w.heap.size 52 2 v rs.length (recCells rs)) (hb : Below w.heap.size w w') : DPostR w ss (.returned (.tuple #[v, .int .i64 0, .int .i64 0])) w' := by
  unfold DPostR
  rw [h]
  exact ⟨_, rfl, ho, hb⟩
set_option maxRecDepth 100000 in
set_option maxHeartbeats 3200000 in
theorem refDec_n (b off c n : Nat) (ss : List ByteArray) (w : World) (hn : ss.length = n) (hmax : n ≤ 1048576) (hb : b < w.heap.size) (hsz : ∀ s ∈ ss, s.size ≤ 1048576)
    (h1 : ∀ j u, (strs ss)[j]? = some u → w.cell? ⟨b, off + j, none⟩ = some u) :
    Calls Try.prog 16 #[.slice (some ⟨b, off, none⟩) n c] w fun e w' => DPostR w ss e w' := by
  have H1 : Hid (∀ j u, (strs ss)[j]? = some u → w.cell? ⟨b, off + j, none⟩ = some u) := h1
  have HN : Hid (ss.length = n) := hn
  have HS : Hid (∀ s ∈ ss, s.size ≤ 1048576) := hsz
  clear h1 hn hsz
  obtain ⟨i0, hi0, hz0, hz1, hz2⟩ := info_parts info52
  go_enter Try.func16, Try.ntmps16
  go_wp2_with fail
  go_loopw [5, 6, 7] (fun v wb j wr => ∃ (k : Nat) (S : ByteArray) (bb : Bool), k ≤ n ∧ j = .int .i64 k ∧ v = .string S ∧ wb = .bool bb ∧ R1 ss k S bb ∧ Below w.heap.size w wr) (fun _ _ j _ => n - (intOf j).toNat)
  case atStart => exact ⟨0, ⟨#[]⟩, true, Nat.zero_le _, rfl, rfl, rfl, r1_start ss, Below.refl _ _⟩
  case round =>
    obtain ⟨k, S, bb, hk, rfl, rfl, rfl, hR, hbel⟩ := hrel
    have hSz := hR.size
    have hsz := hbel.size
    by_cases hkn : k < n
    · have hl : k < ss.length := by have := HN.out; omega
      have c1 := (hbel.cell (p := ⟨b, off + k, none⟩) hb).trans (H1.out k _ (strs_get ss k hl))
      have hs := HS.out ss[k] (List.getElem_mem hl)
      have hi3 : (k : Int) < (n : Int) := by omega
      by_cases hbd : bad ss[k] = true
      · have HA : Hid (decA ss = ([], 3, (k : Int))) := r1_bad hR hl hbd
        clear hR
        generalize ss[k] = s at c1 hs hbd
        clear hl
        by_cases h5 : s.size < 5
        · have g1 : decide ((s.size : Int) - 4 < 1) = true := by simp; omega
          clear hbd
          go_wp2_with fail
          go_quiet (fail)
          go_wp2_with fail
          go_ret3
          exact dpr_err HA.out (hbel.trans (below_drewN' _ _ _))
        · by_cases h64 : 64 < s.size
          · have g1 : decide ((s.size : Int) - 4 < 1) = false := by simp; omega
            have g2 : decide (60 < (s.size : Int) - 4) = true := by simp; omega
            clear hbd
            go_wp2_with fail
            go_quiet (fail)
            go_wp2_with fail
            go_ret3
            exact dpr_err HA.out (hbel.trans (below_drewN' _ _ _))
          · obtain ⟨m, hm⟩ : ∃ m, s.size = m + 4 := ⟨s.size - 4, by omega⟩
            have hB2 : (sumL (s.data.toList.take m) == (s.extract m (m + 4)).toList) = false := bad_sum hm (by omega) (by omega) hbd
            have i0 : (0 : Int) ≤ (m : Int) := by omega
            have i1 : (1 : Int) ≤ (m : Int) := by omega
            have i2 : (m : Int) ≤ 60 := by omega
            have i3 : (m : Int) ≤ (m : Int) + 4 := by omega
            have g1 : decide ((m : Int) < 1) = false := by simp; omega
            have g2 : decide (60 < (m : Int)) = false := by simp; omega
            have hps : (s.extract 0 m).size ≤ 1048576 := by simp; omega
            clear hbd
            go_wp2_with fail
            go_region_held3 (fun w' => w'.cell? ⟨b, off + k, none⟩ = some (.string s))
              (first
                | go_keep
                | exact (hb3.cell (p := ⟨b, off + k, none⟩) (by show b < wr.heap.size; omega)).trans c1)
              ((go_at_call 31; refine (refSum_any _ _ hps).mono ?_; rintro e w3 ⟨rfl, hb3⟩))
            go_wp2_with fail
            go_ret3
            exact dpr_err HA.out (hbel.drew.trans (hb3.mono hsz))
      · have hbd' : bad ss[k] = false := by simpa using hbd
        obtain ⟨m, hm, hm1, hm2, hB2, hu⟩ := good_sum hbd'
        obtain ⟨s, es⟩ : ∃ s, ss[k] = s := ⟨_, rfl⟩
        have HX : Hid (∀ b' S', (b' = true ↔ bb = true ∧ (m = 60 ∨ k + 1 = n)) → S' = S ++ s.extract 0 m → R1 ss (k + 1) S' b') := fun b' S' hw hS => r1_next hR hl es (by rw [← es]; exact hbd') (by rw [← es]; exact hm) hm2 (by rw [← es]; exact hu) (by rw [hw, HN.out]) hS
        rw [es] at c1 hs hm hB2
        clear hR hbd hbd' hu es hl
        have i0 : (0 : Int) ≤ (m : Int) := by omega
        have i1 : (1 : Int) ≤ (m : Int) := by omega
        have i2 : (m : Int) ≤ 60 := by omega
        have i3 : (m : Int) ≤ (m : Int) + 4 := by omega
        have g1 : decide ((m : Int) < 1) = false := by simp; omega
        have g2 : decide (60 < (m : Int)) = false := by simp; omega
        have hps : (s.extract 0 m).size ≤ 1048576 := by simp; omega
        have hl2 : S.size + (s.extract 0 m).size ≤ 268435456 := by simp; omega
        go_wp2_with fail
        go_region_held3 (fun w' => w'.cell? ⟨b, off + k, none⟩ = some (.string s))
          (first
            | go_keep
            | exact (hb3.cell (p := ⟨b, off + k, none⟩) (by show b < wr.heap.size; omega)).trans c1)
          ((go_at_call 31; refine (refSum_any _ _ hps).mono ?_; rintro e w3 ⟨rfl, hb3⟩))
        have hb4 := hbel.drew.trans (hb3.mono hsz)
        cases bb with
        | false =>
          go_wp2_with fail
          go_roundw
          case rel => exact ⟨k + 1, _, _, by omega, by go_num, rfl, rfl, HX.out _ _ (by simp) rfl, hb4⟩
          case measure => simp [intOf]; omega
        | true =>
          by_cases h60 : m = 60
          · subst h60
            go_wp2_with fail
            go_roundw
            case rel => exact ⟨k + 1, _, _, by omega, by go_num, rfl, rfl, HX.out _ _ (by simp) rfl, hb4⟩
            case measure => simp [intOf]; omega
          · have g3 : decide ((m : Int) = 60) = false := by simp; omega
            by_cases hlast : k + 1 = n
            · have g4 : decide ((k : Int) = (n : Int) - 1) = true := by simp; omega
              go_wp2_with fail
              go_roundw
              case rel =>
                refine ⟨k + 1, _, _, by omega, by go_num, rfl, rfl, HX.out _ _ ?_ rfl, hb4⟩
                simp
                omega
              case measure => simp [intOf]; omega
            · have g4 : decide ((k : Int) = (n : Int) - 1) = false := by simp; omega
              go_wp2_with fail
              go_roundw
              case rel =>
                refine ⟨k + 1, _, _, by omega, by go_num, rfl, rfl, HX.out _ _ ?_ rfl, hb4⟩
                simp
                omega
              case measure => simp [intOf]; omega
    · have hkl : k = ss.length := by have := HN.out; omega
      obtain ⟨hTx, hfu, hno⟩ := r1_end hR hkl
      have hSmax : S.size ≤ 62914560 := by omega
      clear hR hkl
      cases bb with
      | false =>
        have HA : Hid (decA ss = ([], 4, (n : Int))) := by show _ = _; unfold decA; rw [hno, ← hfu, ← HN.out]; rfl
        clear hfu hno hTx
        go_wp2_with fail
        refine wp_loop_rounds 1 ?_
        rw [rounds_succ]
        go_wp2_with fail
        go_ret3
        exact dpr_err HA.out hbel
      | true =>
        have HA : Hid (∀ d, decL S.data.toList = d → decA ss = match d with | some rs => (rs, 0, 0) | none => ([], 4, (n : Int))) := by
          intro d hd
          subst hd
          unfold decA
          rw [hno, ← hfu, ← HN.out, hTx]
          rfl
        clear hfu hno hTx
        have hmaxw := hbel
        go_wp2_with fail
        go_loopw [5, 9] (fun v l wr => ∃ (T : ByteArray) (acc : List RecB), v = .string T ∧ wr.ownsRow w.heap.size 52 2 l acc.length (recCells acc) ∧ Below w.heap.size w wr ∧ acc.length + T.size ≤ S.size ∧ decL S.data.toList = (decL T.data.toList).map (acc ++ ·)) (fun v _ _ => strSize v)
        case atStart =>
          refine ⟨S, [], rfl, World.ownsRow_nil _ _ _ _, hbel, by simp, ?_⟩
          cases decL S.data.toList <;> simp
        case round =>
          obtain ⟨T, acc, rfl, hown, hbel, hlen, hD⟩ := hrel
          obtain ⟨av, cv, rfl⟩ := shapeR hown
          cases hT : T.data.toList with
          | nil =>
            have e0 : T.size = 0 := by rw [← size_toList, hT]; rfl
            have HA2 : Hid (decA ss = (acc, 0, 0)) := HA.out (some acc) (by rw [hD, hT, decL_nil]; simp)
            clear hD hT
            go_wp2_with fail
            go_ret3
            exact dpr_ok HA2.out hown hbel
          | cons c r =>
            have e0 : T.size = r.length + 1 := by rw [← size_toList, hT]; rfl
            have hp0 : 0 < T.size := by omega
            have hp1 : (0 : Int) < (T.size : Int) := by omega
            obtain ⟨a, ha⟩ : ∃ a, c.toNat = a := ⟨_, rfl⟩
            have ha2 : a ≤ 255 := by rw [← ha]; have := c.toNat_lt; omega
            have hc : (T[0]'hp0).toNat = a := by rw [← ha, get_toList, List.getElem_of_eq hT]; rfl
            by_cases h40 : 40 < a
            · have HA2 : Hid (decA ss = ([], 4, (n : Int))) := HA.out none (by rw [hD, hT, decL_none (one_e1 (Or.inl (by omega)))]; rfl)
              have g1 : decide (40 < (a : Int)) = true := by simp; omega
              clear hD hT ha
              go_wp2_with fail
              go_ret3
              exact dpr_err HA2.out hbel
            · have g1 : decide (40 < (a : Int)) = false := by simp; omega
              by_cases h1k : T.size ≤ 1 + a
              · have HA2 : Hid (decA ss = ([], 4, (n : Int))) := HA.out none (by rw [hD, hT, decL_none (one_e1 (Or.inr (by rw [List.length_cons]; omega)))]; rfl)
                have g2 : decide ((T.size : Int) ≤ 1 + (a : Int)) = true := by simp; omega
                clear hD hT ha
                go_wp2_with fail
                go_ret3
                exact dpr_err HA2.out hbel
              · have g2 : decide ((T.size : Int) ≤ 1 + (a : Int)) = false := by simp; omega
                have hp2 : 1 + a < T.size := by omega
                have hp3 : (1 : Int) + (a : Int) < (T.size : Int) := by omega
                have hrl : c.toNat < r.length := by omega
                obtain ⟨y, s, hdr⟩ : ∃ y s, r.drop c.toNat = y :: s := ⟨_, _, drop_at hrl⟩
                have hsl : s.length + 1 + a = r.length := by have := congrArg List.length hdr; rw [List.length_drop, List.length_cons] at this; omega
                obtain ⟨d, hd⟩ : ∃ d, y.toNat = d := ⟨_, rfl⟩
                have hd2 : d ≤ 255 := by rw [← hd]; have := y.toNat_lt; omega
                have hy : T.data.toList[1 + a]'hp2 = y := by
                  rw [List.getElem_of_eq hT]
                  have h3 := List.getElem_of_eq hdr (i := 0) (by rw [List.length_drop]; omega)
                  rw [List.getElem_drop] at h3
                  simp only [ha] at h3
                  simpa [Nat.add_comm 1 a] using h3
                have hg : (T[1 + a]'hp2).toNat = d := by rw [← hd, get_toList, hy]
                have hp4 : (1 + (a : Int)).toNat < T.size := by omega
                have hg2 : (T[(1 + (a : Int)).toNat]'hp4).toNat = d := by rw [← hg]; congr 2
                have hmid := one_mid hrl hdr
                by_cases h100 : 100 < d
                · have HA2 : Hid (decA ss = ([], 4, (n : Int))) := HA.out none (by
                    rw [hD, hT, decL_none]
                    · rfl
                    · rw [hmid]; split
                      · rw [if_neg (by omega)]
                      · rfl)
                  have g3 : decide (100 < (d : Int)) = true := by simp; omega
                  clear hD hT ha hmid hdr hrl hy hd
                  go_wp2_with fail
                  go_ret3
                  exact dpr_err HA2.out hbel
                · have g3 : decide (100 < (d : Int)) = false := by simp; omega
                  by_cases h2k : T.size < 2 + a + d
                  · have HA2 : Hid (decA ss = ([], 4, (n : Int))) := HA.out none (by
                      rw [hD, hT, decL_none]
                      · rfl
                      · rw [hmid, if_neg (by omega)])
                    have g4 : decide ((T.size : Int) < 2 + (a : Int) + (d : Int)) = true := by simp; omega
                    clear hD hT ha hmid hdr hrl hy hd
                    go_wp2_with fail
                    go_ret3
                    exact dpr_err HA2.out hbel
                  · have g4 : decide ((T.size : Int) < 2 + (a : Int) + (d : Int)) = false := by simp; omega
                    have q1 : (1 : Int) ≤ 1 + (a : Int) := by omega
                    have q2 : (1 : Int) + (a : Int) ≤ (T.size : Int) := by omega
                    have q3 : (2 : Int) + (a : Int) ≤ 2 + (a : Int) + (d : Int) := by omega
                    have q4 : (2 : Int) + (a : Int) + (d : Int) ≤ (T.size : Int) := by omega
                    have q5 : (0 : Int) ≤ 2 + (a : Int) := by omega
                    have q6 : (0 : Int) ≤ 2 + (a : Int) + (d : Int) := by omega
                    have ho := one_at hT ha hdr hd hrl (by omega) (by omega)
                    have HT : Hid (T.data.toList = c :: r) := hT
                    have HD : Hid (decL S.data.toList = (decL T.data.toList).map (acc ++ ·)) := hD
                    have HO : Hid (one (c :: r) = _) := ho
                    have w1 : IntKind.i64.wrap (1 + (a : Int)) = 1 + (a : Int) := wrap_small _ (by omega) (by omega)
                    have w2 : IntKind.i64.wrap (2 + (a : Int)) = 2 + (a : Int) := wrap_small _ (by omega) (by omega)
                    have w3 : IntKind.i64.wrap (2 + (a : Int) + (d : Int)) = 2 + (a : Int) + (d : Int) := wrap_small _ (by omega) (by omega)
                    clear hD hT ha hmid hdr hrl hy hd ho e0 hsl
                    go_wp2_with fail
                    go_region
                    have hsz2 := hbel.size
                    have hb2 : Below w.heap.size w (wr.alloc (Obj.cells #[Value.string (T.extract 1 (1 + a)), Value.string (T.extract (2 + a) (2 + a + d))] 52)).drew := (hbel.alloc hsz2 _).drew
                    have hown2 : (wr.alloc (Obj.cells #[Value.string (T.extract 1 (1 + a)), Value.string (T.extract (2 + a) (2 + a + d))] 52)).drew.ownsRow w.heap.size 52 2 (Value.slice av acc.length cv) acc.length (recCells acc) := hown.alloc _
                    go_wp2_with fail
                    refine (refIsKey_any _ _).mono ?_
                    rintro e w5 ⟨rfl, rfl⟩
                    cases hik : isKeyL (T.extract 1 (1 + a)).data.toList with
                    | false =>
                      have HA2 : Hid (decA ss = ([], 4, (n : Int))) := HA.out none (by rw [HD.out, HT.out, decL_none (by rw [HO.out, if_neg (by rw [hik]; decide)])]; rfl)
                      clear hik
                      go_wp2_with fail
                      go_ret3
                      exact dpr_err HA2.out hb2
                    | true =>
                      have HO2 : Hid (one (c :: r) = some ((T.extract 1 (1 + a), T.extract (2 + a) (2 + a + d)), (T.extract (2 + a + d) T.size).data.toList)) := by show _ = _; rw [HO.out, if_pos hik]
                      clear hik HO
                      have hb3 : Below w.heap.size w ((wr.alloc (Obj.cells #[Value.string (T.extract 1 (1 + a)), Value.string (T.extract (2 + a) (2 + a + d))] 52)).alloc (Obj.cells #[Value.string (T.extract 1 (1 + a)), Value.string (T.extract (2 + a) (2 + a + d))] 52)).drew := ((hbel.alloc hsz2 _).alloc (by simp; omega) _).drew
                      have hnw : ∀ j u, [Value.string (T.extract 1 (1 + a)), Value.string (T.extract (2 + a) (2 + a + d))][j]? = some u → ((wr.alloc (Obj.cells #[Value.string (T.extract 1 (1 + a)), Value.string (T.extract (2 + a) (2 + a + d))] 52)).alloc (Obj.cells #[Value.string (T.extract 1 (1 + a)), Value.string (T.extract (2 + a) (2 + a + d))] 52)).drew.cell? ((⟨wr.heap.size + 1, 0, none⟩ : Addr).add j) = some u := by
                        have h9 := World.news_of_block (cs := #[Value.string (T.extract 1 (1 + a)), Value.string (T.extract (2 + a) (2 + a + d))]) (t := 52) (fr := (0, 0)) (heap_alloc_new (wr.alloc (Obj.cells #[Value.string (T.extract 1 (1 + a)), Value.string (T.extract (2 + a) (2 + a + d))] 52)) _)
                        rw [World.size_alloc] at h9
                        exact h9
                      go_wp2_with (at_builtin; refine wpList_append_own _ rfl (.tmp 127) (.tmp 129) 25 rfl w.heap.size 52 i0 (.agg #[.string ByteArray.empty, .string ByteArray.empty]) 2 32 Try.underlying25 hi0 hz0 hz1 hz2 rfl (by decide) _ _ _ rfl (hown2.alloc _) ⟨wr.heap.size + 1, 0, none⟩ 1 1 [.string (T.extract 1 (1 + a)), .string (T.extract (2 + a) (2 + a + d))] rfl rfl hnw (by simp [Value.oneCell']) (by unfold maxLen; omega) (by omega) (by simp; omega) ?_)
                      intro v6 w6 hown6 hg6 _
                      obtain ⟨n1, n2, n3, n4, n5⟩ := rd_next (T' := T.extract (2 + a + d) T.size) HT.out HD.out HO2.out rfl hlen hown hb3 hown6 hg6
                      have HN4 : Hid (decL S.data.toList = _) := n4
                      clear n4 hown6 hg6 hnw hb3 hown2 hb2
                      go_wp2_with fail
                      go_roundw
                      case rel => exact ⟨_, _, rfl, n1, n2, n3, HN4.out⟩
                      case measure => exact n5
set_option maxRecDepth 100000 in
set_option maxHeartbeats 1600000 in
theorem refDec_0 (ao : Option Addr) (c : Nat) (w : World) : Calls Try.prog 16 #[.slice ao 0 c] w fun e w' => DPostR w [] e w' := by
  have HA : Hid (decA [] = ([], 0, 0)) := by show _ = _; decide
  go_enter Try.func16, Try.ntmps16
  go_wp2_with fail
  refine wp_loop_rounds 1 ?_
  rw [rounds_succ]
  go_wp2_with fail
  refine wp_loop_rounds 1 ?_
  rw [rounds_succ]
  go_wp2_with fail
  go_ret3
  exact dpr_ok HA.out (World.ownsRow_nil _ _ _ _) (Below.refl _ _)
theorem refDecode_any {w : World} {B : Nat} {v : Value} {n : Nat} {ss : List ByteArray} (hB : B ≤ w.heap.size) (hn : ss.length = n) (hmax : n ≤ 1048576) (hsz : ∀ s ∈ ss, s.size ≤ 1048576) (h : Rd w B v n (strs ss)) :
    Calls Try.prog 16 #[v] w fun e w' => DPostR w ss e w' := by
  obtain ⟨ao, cap, rfl, hcap, h0 | ⟨b, off, rfl, hb, hc⟩⟩ := h
  · subst h0
    obtain rfl : ss = [] := List.eq_nil_of_length_eq_zero hn
    exact refDec_0 ao cap w
  · exact refDec_n b off cap n ss w hn hmax (by omega) hsz hc
end Go.Proofs.Ytbdnhccjlggpkaa

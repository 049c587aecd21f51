import Derived.Test.YtbdnhccjlggpkaaQ
namespace Go.Proofs.Ytbdnhccjlggpkaa
open Go.RowKit
set_option maxHeartbeats 3200000 in
theorem refEnc_e2 (b off c n j : Nat) (rs : List RecB) (w : World) (hn : rs.length = n) (hmax : n ≤ 1048576)
    (h1 : ∀ j u, (recCells rs)[j]? = some u → w.cell? ⟨b, off + j, none⟩ = some u) (hj : j < n) (hj0 : ∀ q (hq : q < rs.length), noKey rs[q] = false) (hj1 : ∀ q (_ : q < j) (hq : q < rs.length), rs[q].2.size ≤ 100) (hj2 : ∀ (hq : j < rs.length), 100 < rs[j].2.size) :
    Calls Try.prog 11 #[.slice (some ⟨b, off, none⟩) n c] w fun e w' => e = .returned (.tuple #[.slice none 0 0, .int .i64 2, .int .i64 j]) ∧ w' = w := by
  have H1 : Hid (∀ j u, (recCells rs)[j]? = some u → w.cell? ⟨b, off + j, none⟩ = some u) := h1
  have HN : Hid (rs.length = n) := hn
  have HJ0 : Hid (∀ q (hq : q < rs.length), noKey rs[q] = false) := hj0
  have HJ1 : Hid (∀ q (_ : q < j) (hq : q < rs.length), rs[q].2.size ≤ 100) := hj1
  have HJ2 : Hid (∀ (hq : j < rs.length), 100 < rs[j].2.size) := hj2
  clear h1 hn hj1 hj2 hj0
  go_enter Try.func11, Try.ntmps11
  go_wp2
  go_loop [5] (fun i => ∃ k : Nat, k ≤ j ∧ i = .int .i64 k) (fun i => j - (intOf i).toNat)
  case atStart => exact ⟨0, Nat.zero_le _, rfl⟩
  case round =>
    obtain ⟨k, hk, rfl⟩ := hrel
    have hl : k < rs.length := by have := HN.out; omega
    obtain ⟨c1, d1⟩ := at_2 H1.out k hl
    have hi : (k : Int) < (n : Int) := by omega
    have hb := key_of_no (HJ0.out k hl)
    by_cases hkj : k = j
    · subst hkj
      have hlong := HJ2.out hl
      generalize rs[k].1 = s at c1 hb
      generalize rs[k].2 = t at d1 hlong
      clear hl
      have hlb : decide (100 < (t.size : Int)) = true := by simp; omega
      go_wp2_with fail
      refine (refIsKey_any _ _).mono ?_; rintro e w' ⟨rfl, rfl⟩
      go_wp2_with fail
      go_loop [7] (fun i => ∃ q : Nat, k < q ∧ q ≤ n ∧ i = .int .i64 q) (fun i => n - (intOf i).toNat)
      case atStart => exact ⟨k + 1, by omega, by omega, by go_num⟩
      case round =>
        obtain ⟨q, hkq, hqj, rfl⟩ := hrel
        by_cases hqe : q < n
        · have hlq : q < rs.length := by have := HN.out; omega
          obtain ⟨c2, d2⟩ := at_2 H1.out q hlq
          have hi2 : (q : Int) < (n : Int) := by omega
          have hb2 := key_of_no (HJ0.out q hlq)
          generalize rs[q].1 = s2 at c2 hb2
          clear hlq d2
          go_wp2_with fail
          refine (refIsKey_any _ _).mono ?_; rintro e w' ⟨rfl, rfl⟩
          go_wp2_with fail
          go_round
          case rel => exact ⟨q + 1, by omega, by omega, by go_num⟩
          case measure => simp [intOf]; omega
        · go_wp2_with fail
          go_ret3
          exact ⟨rfl, rfl⟩
    · have hlong := HJ1.out k (by omega) hl
      generalize rs[k].1 = s at c1 hb
      generalize rs[k].2 = t at d1 hlong
      clear hl
      go_wp2_with fail
      refine (refIsKey_any _ _).mono ?_; rintro e w' ⟨rfl, rfl⟩
      go_wp2_with fail
      go_round
      case rel => exact ⟨k + 1, by omega, by go_num⟩
      case measure => simp [intOf]; omega
theorem conv1 (w : World) (a : Int) :
    (convert 55 9 (.slice (some ⟨w.heap.size, 0, none⟩) 1 1)).run Try.prog (w.alloc (.cells #[.int .u8 a] 5)) = .ok (.string (strOfNums [a])) (w.alloc (.cells #[.int .u8 a] 5)) := by
  refine run_convert_bytes_arg _ 55 5 Try.underlying55 Try.underlying5 w.heap.size 0 1 1 [a] rfl ?_ 9 Try.underlying9
  intro i hi
  match i, hi with
  | 0, _ => simp
theorem conv1b (w : World) (o : Obj) (a : Int) :
    (convert 55 9 (.slice (some ⟨w.heap.size + 1, 0, none⟩) 1 1)).run Try.prog ((w.alloc o).alloc (.cells #[.int .u8 a] 5)) = .ok (.string (strOfNums [a])) ((w.alloc o).alloc (.cells #[.int .u8 a] 5)) := by
  have h := conv1 (w.alloc o) a
  rw [World.size_alloc] at h
  exact h
theorem one_size (a : Int) : (strOfNums [a]).size = 1 := rfl
/-- What the reference writes for a record. -/
theorem ref_text (T : List UInt8) (s t : ByteArray) :
    ByteArray.mk T.toArray ++ strOfNums [(s.size : Int)] ++ s ++ strOfNums [(t.size : Int)] ++ t = ⟨(T ++ recB (s, t)).toArray⟩ := by
  apply ByteArray.ext
  apply Array.ext'
  unfold recB strOfNums
  simp
theorem blk_eq {T : List UInt8} {p : Nat} {P U : ByteArray} (h : p < T.length) (hP : P.data.toList = (T.drop p).take 60) (hU : ByteArray.mk (sumL P.data.toList).toArray = U) : P ++ U = blockB T p := by
  have e : pieceL T p = P.data.toList := by unfold pieceL; rw [show min p (T.length - 1) = p from by omega, hP]
  unfold blockB
  rw [e, ← hU]
  apply ByteArray.ext
  apply Array.ext'
  simp
theorem cut_head {T : List UInt8} {p q : Nat} {S P : ByteArray} (hS : S = ⟨(T.drop p).toArray⟩) (hP : S.extract 0 q = P) (hq : q = 60 ∨ (q = S.size ∧ S.size ≤ 60)) : P.data.toList = (T.drop p).take 60 := by
  rw [← hP]
  rcases hq with rfl | ⟨rfl, h⟩
  · rw [hS]; simp
  · have e : S.extract 0 S.size = S := by
      apply ByteArray.ext
      apply Array.ext'
      simp
    rw [e, hS]
    rw [hS] at h
    have h2 : (T.drop p).length ≤ 60 := by
      have : (ByteArray.mk (T.drop p).toArray).size = (T.drop p).length := by show (T.drop p).toArray.size = _; simp
      omega
    rw [List.take_of_length_le h2]
theorem cut_whole {T : List UInt8} {p : Nat} {S : ByteArray} (hS : S = ⟨(T.drop p).toArray⟩) (h : S.size ≤ 60) : S.data.toList = (T.drop p).take 60 := by
  rw [hS] at h ⊢
  have h2 : (T.drop p).length ≤ 60 := by
    have : (ByteArray.mk (T.drop p).toArray).size = (T.drop p).length := by show (T.drop p).toArray.size = _; simp
    omega
  rw [List.take_of_length_le h2]
theorem cut_tail {T : List UInt8} {p q : Nat} {S : ByteArray} (hS : S = ⟨(T.drop p).toArray⟩) : S.extract q S.size = ⟨(T.drop (p + q)).toArray⟩ := by
  have hl : S.size = T.length - p := by rw [hS]; show (T.drop p).toArray.size = _; simp
  apply ByteArray.ext
  apply Array.ext'
  rw [ByteArray.data_extract]
  rw [hS]
  show ((T.drop p).toArray.extract q _).toList = _
  rw [← hS, hl]
  simp [List.drop_drop]
  rw [List.take_of_length_le (by simp; omega)]
def strSize : Value → Nat
  | .string s => s.size
  | _ => 0
set_option maxRecDepth 100000 in
set_option maxHeartbeats 3200000 in
theorem refEnc_ok (b off c n : Nat) (rs : List RecB) (w : World) (hn : rs.length = n) (hmax : n ≤ 1048576) (hb : b < w.heap.size)
    (h1 : ∀ j u, (recCells rs)[j]? = some u → w.cell? ⟨b, off + j, none⟩ = some u) (hok : ∀ r ∈ rs, okRec r) :
    Calls Try.prog 11 #[.slice (some ⟨b, off, none⟩) n c] w fun e w' => ∃ v', e = .returned (.tuple #[v', .int .i64 0, .int .i64 0]) ∧ w'.ownsRow w.heap.size 9 1 v' (blocksOf (textOf rs)).length (strs (blocksOf (textOf rs))) ∧ Below w.heap.size w w' := by
  have H1 : Hid (∀ j u, (recCells rs)[j]? = some u → w.cell? ⟨b, off + j, none⟩ = some u) := h1
  have HN : Hid (rs.length = n) := hn
  have HO : Hid (∀ r ∈ rs, okRec r) := hok
  clear h1 hn hok
  go_enter Try.func11, Try.ntmps11
  go_wp2
  go_loop [5] (fun i => ∃ k : Nat, k ≤ n ∧ i = .int .i64 k) (fun i => n - (intOf i).toNat)
  case atStart => exact ⟨0, Nat.zero_le _, rfl⟩
  case round =>
    obtain ⟨k, hk, rfl⟩ := hrel
    by_cases hlt : k < n
    · have hl : k < rs.length := by have := HN.out; omega
      obtain ⟨c1, d1⟩ := at_2 H1.out k hl
      have hi : (k : Int) < (n : Int) := by omega
      have hb := (HO.out rs[k] (List.getElem_mem hl)).1
      have hlong := (HO.out rs[k] (List.getElem_mem hl)).2
      generalize rs[k].1 = s at c1 hb
      generalize rs[k].2 = t at d1 hlong
      clear hl
      go_wp2_with fail
      refine (refIsKey_any _ _).mono ?_; rintro e w' ⟨rfl, rfl⟩
      go_wp2_with fail
      go_round
      case rel => exact ⟨k + 1, by omega, by go_num⟩
      case measure => simp [intOf]; omega
    · have hcv := conv1
      have hcw := conv1b
      have hos := one_size
      go_wp2_with fail
      go_loopw [9, 10] (fun v i wr => ∃ k : Nat, ∃ S : ByteArray, k ≤ n ∧ i = .int .i64 k ∧ v = .string S ∧ Hid (S = ⟨(textOf (rs.take k)).toArray⟩) ∧ Below w.heap.size w wr) (fun _ i _ => n - (intOf i).toNat)
      case atStart => exact ⟨0, ⟨#[]⟩, Nat.zero_le _, rfl, rfl, rfl, Below.refl _ _⟩
      case round =>
        obtain ⟨k, S, hk, rfl, rfl, HS, hbel⟩ := hrel
        by_cases hlt : k < n
        · have hl : k < rs.length := by have := HN.out; omega
          obtain ⟨c1, d1⟩ := at_2 H1.out k hl
          have c1' := (hbel.cell (p := ⟨b, off + k * 2, none⟩) hb).trans c1
          have d1' := (hbel.cell (p := ⟨b, off + k * 2 + 1, none⟩) hb).trans d1
          have hi : (k : Int) < (n : Int) := by omega
          have hs1 := okRec_size (HO.out rs[k] (List.getElem_mem hl))
          have htl := text_len (rs.take k) (fun r hr => HO.out r (List.mem_of_mem_take hr))
          rw [List.length_take] at htl
          have hSz : S.size ≤ 268435456 := by rw [HS.out]; show (textOf (rs.take k)).toArray.size ≤ _; simp; omega
          have HT : Hid (textOf (rs.take (k + 1)) = textOf (rs.take k) ++ recB (rs[k].1, rs[k].2)) := by
            show _ = _
            rw [List.take_succ_eq_append_getElem hl, textOf_snoc]
          generalize rs[k].1 = s at c1 c1' hs1 HT
          generalize rs[k].2 = t at d1 d1' hs1 HT
          obtain ⟨hs2, ht2⟩ := hs1
          clear hl c1 d1 htl
          go_wp2_with fail
          go_roundw
          case rel =>
            refine ⟨k + 1, _, by omega, by go_num, rfl, ?_, (hbel.alloc hbel.size _).alloc (by have := hbel.size; simp; omega) _⟩
            show _ = _
            rw [HT.out, HS.out]
            exact ref_text _ s t
          case measure => simp [intOf]; omega
        · have htl := text_len rs (fun r hr => HO.out r hr)
          have hrl := HN.out
          have hTl : (textOf rs).length ≤ 268435456 := by omega
          have HS2 : Hid (S = ⟨(textOf rs).toArray⟩) := by
            have e : rs.take k = rs := List.take_of_length_le (by omega)
            have := HS.out
            rw [e] at this
            exact this
          clear htl hrl HS H1 HO HN
          generalize hTT : textOf rs = T at HS2 hTl
          have HTT : Hid (textOf rs = T) := hTT
          clear hTT
          obtain ⟨i0, hi0, hz0, hz1, hz2⟩ := info_parts info9
          go_wp2_with fail
          go_loopw [9, 13] (fun v l wr => ∃ j : Nat, ∃ S : ByteArray, v = .string S ∧ Hid (S = ⟨(T.drop (j * 60)).toArray⟩) ∧ Hid (j * 60 < T.length + 60) ∧ wr.ownsRow w.heap.size 9 1 l j (strs ((starts j).map (blockB T))) ∧ Below w.heap.size w wr) (fun v _ _ => strSize v)
          case atStart => exact ⟨0, S, rfl, by show _ = _; rw [HS2.out]; simp, by show _ < _; omega, World.ownsRow_nil _ _ _ _, hbel⟩
          case round =>
            obtain ⟨j, S, rfl, HS, HJ, hown, hbel⟩ := hrel
            have hSs : S.size = T.length - j * 60 := by rw [HS.out]; show (T.drop (j * 60)).toArray.size = _; simp
            by_cases h0 : S.size = 0
            · have hjn : j = nB60 T.length := by have := HJ.out; unfold nB60; omega
              subst hjn
              have hown2 : wr.ownsRow w.heap.size 9 1 u13 (blocksOf T).length (strs (blocksOf T)) := by rw [blocksOf_length]; exact hown
              clear hown hSs
              obtain ⟨ao, cp, rfl⟩ : ∃ a c, u13 = .slice a (blocksOf T).length c := by
                rcases hown2.2 with ⟨rfl, h⟩ | ⟨g, cap, cur, rfl, _⟩
                · exact ⟨none, 0, by rw [h]⟩
                · exact ⟨_, _, rfl⟩
              go_wp2_with fail
              go_ret3
              rw [HTT.out]
              exact ⟨_, rfl, hown2, hbel⟩
            · by_cases h60 : S.size < 60
              · have hSb : S.size ≤ 268435456 := by omega
                have hjl : j * 60 < T.length := by omega
                have hj2 : (j + 1) * 60 < T.length + 60 := by omega
                have hsz := hbel.size
                have hjb : j ≤ 268435456 := by omega
                have HSS : Hid (S.size = T.length - j * 60) := hSs
                clear hSs
                go_wp2_with fail
                have HP : Hid (S.data.toList = (T.drop (j * 60)).take 60) := cut_whole HS.out (by omega)
                refine (refSum_any S _ (by omega)).mono ?_; rintro e w3 ⟨rfl, hb3⟩
                generalize hU : ByteArray.mk (sumL S.data.toList).toArray = U
                have hUs : U.size = 4 := by rw [← hU]; rfl
                have HU : Hid (S ++ U = blockB T (j * 60)) := blk_eq hjl HP.out hU
                clear hU
                have hown3 := ownsRow_below hown hb3
                have hbel3 := hbel.trans (hb3.mono hsz)
                have hsz3 := hbel3.size
                clear hown hbel hb3
                go_wp2_with (at_builtin; refine wpList_append_own _ rfl (.tmp 101) (.tmp 106) 28 rfl w.heap.size 9 i0 (.string ByteArray.empty) 1 16 Try.underlying28 hi0 hz0 hz1 hz2 rfl (by decide) _ _ _ rfl (hown3.alloc _) ⟨w3.heap.size, 0, none⟩ 1 1 [.string (S ++ U)] rfl rfl (one_new w3 _ 9) (by simp [Value.oneCell']) (by unfold maxLen; omega) (by omega) (by simp; omega) ?_)
                intro v4 w4 hown4 hg4 _
                have hbel4 : Below w.heap.size w w4 := (hbel3.alloc hsz3 _).grown hg4 (by simp; omega) (fun i e => (hown3.lt i e).1)
                clear hg4 hown3 hbel3
                go_wp2_with fail
                go_roundw
                case rel =>
                  refine ⟨j + 1, _, rfl, ?_, hj2, ?_, hbel4⟩
                  · show _ = _
                    have hz := HSS.out
                    rw [List.drop_eq_nil_of_le (by omega)]
                    rfl
                  · rw [starts_succ, strs_snoc, ← HU.out]
                    exact hown4
                case measure => simp [strSize]; omega
              · have hSb : S.size ≤ 268435456 := by omega
                have hjl : j * 60 < T.length := by omega
                have hj2 : (j + 1) * 60 < T.length + 60 := by omega
                have hsz := hbel.size
                have hjb : j ≤ 268435456 := by omega
                clear hSs
                go_wp2_with fail
                generalize hP : S.extract 0 60 = P
                have hPs : P.size ≤ 60 := by rw [← hP]; simp; omega
                have HP : Hid (P.data.toList = (T.drop (j * 60)).take 60) := cut_head HS.out hP (Or.inl rfl)
                clear hP
                refine (refSum_any P _ (by omega)).mono ?_; rintro e w3 ⟨rfl, hb3⟩
                generalize hU : ByteArray.mk (sumL P.data.toList).toArray = U
                have hUs : U.size = 4 := by rw [← hU]; rfl
                have HU : Hid (P ++ U = blockB T (j * 60)) := blk_eq hjl HP.out hU
                clear hU
                have hown3 := ownsRow_below hown hb3
                have hbel3 := hbel.trans (hb3.mono hsz)
                have hsz3 := hbel3.size
                clear hown hbel hb3
                go_wp2_with (at_builtin; refine wpList_append_own _ rfl (.tmp 101) (.tmp 106) 28 rfl w.heap.size 9 i0 (.string ByteArray.empty) 1 16 Try.underlying28 hi0 hz0 hz1 hz2 rfl (by decide) _ _ _ rfl (hown3.alloc _) ⟨w3.heap.size, 0, none⟩ 1 1 [.string (P ++ U)] rfl rfl (one_new w3 _ 9) (by simp [Value.oneCell']) (by unfold maxLen; omega) (by omega) (by simp; omega) ?_)
                intro v4 w4 hown4 hg4 _
                have hbel4 : Below w.heap.size w w4 := (hbel3.alloc hsz3 _).grown hg4 (by simp; omega) (fun i e => (hown3.lt i e).1)
                clear hg4 hown3 hbel3
                go_wp2_with fail
                go_roundw
                case rel =>
                  refine ⟨j + 1, _, rfl, ?_, hj2, ?_, hbel4⟩
                  · show _ = _
                    rw [show (j + 1) * 60 = j * 60 + 60 from by omega]
                    exact cut_tail HS.out
                  · rw [starts_succ, strs_snoc, ← HU.out]
                    exact hown4
                case measure => simp [strSize]; omega
end Go.Proofs.Ytbdnhccjlggpkaa

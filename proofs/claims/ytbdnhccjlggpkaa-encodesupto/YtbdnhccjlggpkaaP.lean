import Derived.Test.YtbdnhccjlggpkaaO
namespace Go.Proofs.Ytbdnhccjlggpkaa
open Go.RowKit
abbrev RecB := ByteArray × ByteArray
def textOf (rs : List RecB) : List UInt8 := rs.flatMap recB
theorem textOf_snoc (rs : List RecB) (r : RecB) : textOf (rs ++ [r]) = textOf rs ++ recB r := by simp [textOf]
theorem isKey_len {l : List UInt8} (h : isKeyL l = true) : 1 ≤ l.length ∧ l.length ≤ 40 := by
  have h' : kd l ≠ 4 := by unfold isKeyL at h; simpa using h
  unfold kd at h'
  split at h'
  · rename_i x; omega
  · split at h'
    · rename_i x; omega
    · split at h'
      · rename_i x; omega
      · exact absurd rfl h'
/-- A record that may be written. -/
def okRec (r : RecB) : Prop := isKeyL r.1.data.toList = true ∧ r.2.size ≤ 100
theorem okRec_size {r : RecB} (h : okRec r) : r.1.size ≤ 40 ∧ r.2.size ≤ 100 := ⟨(isKey_len h.1).2, h.2⟩
theorem text_len (rs : List RecB) (h : ∀ r ∈ rs, okRec r) : (textOf rs).length ≤ rs.length * 142 := by
  induction rs with
  | nil => simp [textOf]
  | cons r rs ih =>
    have h1 := okRec_size (h r (by simp))
    have h2 := ih (fun r hr => h r (by simp [hr]))
    have e : textOf (r :: rs) = recB r ++ textOf rs := by simp [textOf]
    obtain ⟨k, u⟩ := r
    rw [e, List.length_append, recB_length, List.length_cons]
    simp only at h1
    omega
theorem ownsRow_base {W : World} {base base' n size : Nat} {e : TypeId} {v : Value} {xs : List Value} (h : W.ownsRow base e size v n xs) (hb : base' ≤ base) : W.ownsRow base' e size v n xs := by
  refine ⟨h.1, ?_⟩
  rcases h.2 with ⟨rfl, h0⟩ | ⟨g, cap, cur, rfl, h1, h2, h3⟩
  · exact Or.inl ⟨rfl, h0⟩
  · exact Or.inr ⟨g, cap, cur, rfl, by omega, h2, h3⟩
set_option maxHeartbeats 1600000 in
theorem encode_n (b off c n : Nat) (rs : List RecB) (w : World) (hn : rs.length = n) (hmax : n ≤ 1048576) (hb : b < w.heap.size) (hc : n ≤ c)
    (h1 : ∀ j u, (recCells rs)[j]? = some u → w.cell? ⟨b, off + j, none⟩ = some u) (hi1 : rs.findIdx? noKey = none) (hi2 : rs.findIdx? longV = none) (hok : ∀ r ∈ rs, okRec r) :
    Calls Try.prog 10 #[.slice (some ⟨b, off, none⟩) n c] w fun e w' => ∃ v', e = .returned (.tuple #[v', .int .i64 0, .int .i64 0]) ∧ w'.ownsRow w.heap.size 9 1 v' (blocksOf (textOf rs)).length (strs (blocksOf (textOf rs))) ∧ Below w.heap.size w w' := by
  have hrd : Rd w w.heap.size (.slice (some ⟨b, off, none⟩) n c) n (recCells rs) := ⟨_, c, rfl, hc, Or.inr ⟨b, off, rfl, hb, h1⟩⟩
  have H1 : Hid (∀ j u, (recCells rs)[j]? = some u → w.cell? ⟨b, off + j, none⟩ = some u) := h1
  have HN : Hid (rs.length = n) := hn
  have HR : Hid (Rd w w.heap.size (.slice (some ⟨b, off, none⟩) n c) n (recCells rs)) := hrd
  have HO : Hid (∀ r ∈ rs, okRec r) := hok
  clear h1 hn hrd hok
  have hix : idxV none = -1 := rfl
  go_enter Try.func10, Try.ntmps10
  go_wp2_with fail
  refine (idxKey_any (Nat.le_refl _) HN.out hmax HR.out).mono ?_; rintro e w1 ⟨rfl, hb1⟩
  go_wp2_with fail
  refine (idxVal_any (B := w.heap.size) hb1.size HN.out hmax (HR.out.below hb1)).mono ?_; rintro e w2 ⟨rfl, hb2⟩
  have hb3 : Below w.heap.size w w2 := hb1.trans (hb2.mono hb1.size)
  clear hb1 hb2
  go_wp2_with fail
  go_loopw [7, 22] (fun v i wr => ∃ k : Nat, k ≤ n ∧ i = .int .i64 k ∧ wr.ownsRow w.heap.size 5 1 v (textOf (rs.take k)).length (bytesV (textOf (rs.take k))) ∧ Below w.heap.size w wr) (fun _ i _ => n - (intOf i).toNat)
  case atStart => exact ⟨0, Nat.zero_le _, rfl, World.ownsRow_nil _ _ _ _, hb3⟩
  case round =>
    obtain ⟨k, hk, rfl, hown, hbel⟩ := hrel
    by_cases hlt : k < n
    · have hl : k < rs.length := by have := HN.out; omega
      obtain ⟨c1, d1⟩ := at_2 H1.out k hl
      have c1' := (hbel.cell (p := ⟨b, off + k * 2, none⟩) hb).trans c1
      have d1' := (hbel.cell (p := ⟨b, off + k * 2 + 1, none⟩) hb).trans d1
      clear c1 d1
      have hi : (k : Int) < (n : Int) := by omega
      have hs1 := okRec_size (HO.out rs[k] (List.getElem_mem hl))
      have htl := text_len (rs.take k) (fun r hr => HO.out r (List.mem_of_mem_take hr))
      rw [List.length_take] at htl
      have HT : Hid (textOf (rs.take (k + 1)) = textOf (rs.take k) ++ recB (rs[k].1, rs[k].2)) := by
        show _ = _
        rw [List.take_succ_eq_append_getElem hl, textOf_snoc]
      generalize rs[k].1 = s at c1' hs1 HT
      generalize rs[k].2 = t at d1' hs1 HT
      have hsz := hbel.size
      clear hl
      go_wp2_with fail
      refine (appendRecord_any _ w.heap.size _ _ (textOf (rs.take k)) s t hs1.1 hs1.2 (by omega) (by simp; omega) (hown.alloc _)).mono ?_; rintro e w3 ⟨v3, rfl, hown3, hb5⟩
      have hb6 : Below w.heap.size w w3 := (hbel.alloc hsz _).trans hb5
      clear hb5 hbel c1' d1' hown
      go_wp2_with fail
      go_roundw
      case rel =>
        refine ⟨k + 1, by omega, by go_num, ?_, hb6⟩
        rw [HT.out, List.length_append]
        exact hown3
      case measure => simp [intOf]; omega
    · have htl := text_len rs (fun r hr => HO.out r hr)
      have e : rs.take k = rs := List.take_of_length_le (by have := HN.out; omega)
      rw [e] at hown
      clear e
      have hrl := HN.out
      go_wp2_with fail
      refine (sealAll_any (B := wr.heap.size) (Nat.le_refl _) rfl (by omega) (rd_of_owns hown)).mono ?_; rintro e w3 ⟨v3, rfl, hown3, hb5⟩
      have hb6 : Below w.heap.size w w3 := hbel.trans (hb5.mono hbel.size)
      have hsz := hbel.size
      clear hb5 hbel hown hrl
      obtain ⟨ao, cp, rfl⟩ : ∃ a c, v3 = .slice a (blocksOf (textOf rs)).length c := by
        rcases hown3.2 with ⟨rfl, h⟩ | ⟨g, cap, cur, rfl, _⟩
        · exact ⟨none, 0, by rw [h]⟩
        · exact ⟨_, _, rfl⟩
      go_wp2_with fail
      go_ret3
      exact ⟨_, rfl, ownsRow_base hown3 hsz, hb6⟩
set_option maxHeartbeats 1600000 in
theorem encode_0 (ao : Option Addr) (c : Nat) (w : World) :
    Calls Try.prog 10 #[.slice ao 0 c] w fun e w' => ∃ v', e = .returned (.tuple #[v', .int .i64 0, .int .i64 0]) ∧ w'.ownsRow w.heap.size 9 1 v' 0 [] ∧ Below w.heap.size w w' := by
  go_enter Try.func10, Try.ntmps10
  go_wp2_with fail
  refine (idx_0 _ _ _ _).mono ?_; rintro e w1 ⟨rfl, hb1⟩
  go_wp2_with fail
  refine (idx_0 _ _ _ _).mono ?_; rintro e w2 ⟨rfl, hb2⟩
  have hb3 : Below w.heap.size w w2 := hb1.trans (hb2.mono hb1.size)
  clear hb1 hb2
  go_wp2_with fail
  refine wp_loop_rounds 1 ?_
  rw [rounds_succ]
  go_wp2_with fail
  refine (sealAll_0 _ _ _).mono ?_; rintro e w3 ⟨v3, rfl, hown3, hb5⟩
  have hb6 : Below w.heap.size w w3 := hb3.trans (hb5.mono hb3.size)
  have hsz := hb3.size
  clear hb5 hb3
  obtain ⟨ao, cp, rfl⟩ : ∃ a c, v3 = .slice a 0 c := by
    rcases hown3.2 with ⟨rfl, h⟩ | ⟨g, cap, cur, rfl, _⟩
    · exact ⟨none, 0, rfl⟩
    · exact ⟨_, _, rfl⟩
  go_wp2_with fail
  go_ret3
  exact ⟨_, rfl, ownsRow_base hown3 hsz, hb6⟩
set_option maxHeartbeats 1600000 in
theorem encode_e1 (w : World) (B : Nat) (v : Value) (n i : Nat) (rs : List RecB) (hB : B ≤ w.heap.size) (hn : rs.length = n) (hmax : n ≤ 1048576) (h : Rd w B v n (recCells rs)) (hi : rs.findIdx? noKey = some i) :
    Calls Try.prog 10 #[v] w fun e w' => e = .returned (.tuple #[.slice none 0 0, .int .i64 1, .int .i64 i]) ∧ Below w.heap.size w w' := by
  have HN : Hid (rs.length = n) := hn
  have HR : Hid (Rd w B v n (recCells rs)) := h
  clear hn h
  have hix : idxV (some i) = (i : Int) := rfl
  have hge : (0 : Int) ≤ (i : Int) := by omega
  go_enter Try.func10, Try.ntmps10
  go_wp2_with fail
  refine (idxKey_any hB HN.out hmax HR.out).mono ?_; rintro e w1 ⟨rfl, hb1⟩
  go_wp2_with fail
  go_ret3
  exact ⟨rfl, hb1⟩
set_option maxHeartbeats 1600000 in
theorem encode_e2 (w : World) (B : Nat) (v : Value) (n i : Nat) (rs : List RecB) (hB : B ≤ w.heap.size) (hn : rs.length = n) (hmax : n ≤ 1048576) (h : Rd w B v n (recCells rs)) (hi1 : rs.findIdx? noKey = none) (hi : rs.findIdx? longV = some i) :
    Calls Try.prog 10 #[v] w fun e w' => e = .returned (.tuple #[.slice none 0 0, .int .i64 2, .int .i64 i]) ∧ Below w.heap.size w w' := by
  have HN : Hid (rs.length = n) := hn
  have HR : Hid (Rd w B v n (recCells rs)) := h
  clear hn h
  have hix : idxV (some i) = (i : Int) := rfl
  have hix0 : idxV none = -1 := rfl
  have hge : (0 : Int) ≤ (i : Int) := by omega
  go_enter Try.func10, Try.ntmps10
  go_wp2_with fail
  refine (idxKey_any hB HN.out hmax HR.out).mono ?_; rintro e w1 ⟨rfl, hb1⟩
  go_wp2_with fail
  refine (idxVal_any (B := B) (by have := hb1.size; omega) HN.out hmax (HR.out.below (hb1.mono hB))).mono ?_; rintro e w2 ⟨rfl, hb2⟩
  have hb3 : Below w.heap.size w w2 := hb1.trans (hb2.mono hb1.size)
  clear hb1 hb2
  go_wp2_with fail
  go_ret3
  exact ⟨rfl, hb3⟩
/-- What Encode answers. -/
def encE (rs : List RecB) : Int × Int :=
  match rs.findIdx? noKey with
  | some i => (1, i)
  | none => match rs.findIdx? longV with
    | some i => (2, i)
    | none => (0, 0)
def encB (rs : List RecB) : List ByteArray :=
  match rs.findIdx? noKey with
  | some _ => []
  | none => match rs.findIdx? longV with
    | some _ => []
    | none => blocksOf (textOf rs)
theorem ok_of_none {rs : List RecB} (h1 : rs.findIdx? noKey = none) (h2 : rs.findIdx? longV = none) : ∀ r ∈ rs, okRec r := by
  rw [List.findIdx?_eq_none_iff] at h1 h2
  intro r hr
  have a := h1 r hr
  have b := h2 r hr
  unfold noKey at a
  unfold longV at b
  exact ⟨by simpa using a, by simpa using b⟩
theorem encode_any {w : World} {B : Nat} {v : Value} {n : Nat} {rs : List RecB} (hB : B ≤ w.heap.size) (hn : rs.length = n) (hmax : n ≤ 1048576) (h : Rd w B v n (recCells rs)) :
    Calls Try.prog 10 #[v] w fun e w' => ∃ v', e = .returned (.tuple #[v', .int .i64 (encE rs).1, .int .i64 (encE rs).2]) ∧ w'.ownsRow w.heap.size 9 1 v' (encB rs).length (strs (encB rs)) ∧ Below w.heap.size w w' := by
  cases h1 : rs.findIdx? noKey with
  | some i =>
    have e1 : encE rs = (1, (i : Int)) := by unfold encE; rw [h1]
    have e2 : encB rs = [] := by unfold encB; rw [h1]
    rw [e1, e2]
    refine (encode_e1 w B v n i rs hB hn hmax h h1).mono ?_
    rintro e w' ⟨rfl, hb⟩
    exact ⟨_, rfl, World.ownsRow_nil _ _ _ _, hb⟩
  | none =>
    cases h2 : rs.findIdx? longV with
    | some i =>
      have e1 : encE rs = (2, (i : Int)) := by unfold encE; rw [h1, h2]
      have e2 : encB rs = [] := by unfold encB; rw [h1, h2]
      rw [e1, e2]
      refine (encode_e2 w B v n i rs hB hn hmax h h1 h2).mono ?_
      rintro e w' ⟨rfl, hb⟩
      exact ⟨_, rfl, World.ownsRow_nil _ _ _ _, hb⟩
    | none =>
      have e1 : encE rs = (0, 0) := by unfold encE; rw [h1, h2]
      have e2 : encB rs = blocksOf (textOf rs) := by unfold encB; rw [h1, h2]
      rw [e1, e2]
      obtain ⟨ao, cap, rfl, hcap, h0 | ⟨b, off, rfl, hb, hc⟩⟩ := h
      · subst h0
        obtain rfl : rs = [] := List.eq_nil_of_length_eq_zero hn
        exact encode_0 ao cap w
      · exact encode_n b off cap n rs w hn hmax (by omega) hcap hc h1 h2 (ok_of_none h1 h2)
end Go.Proofs.Ytbdnhccjlggpkaa

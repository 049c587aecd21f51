import Derived.Test.YtghlcllmfenoiaaS
namespace Go.Proofs.Ytghlcllmfenoiaa
open Go.RowKit
/-- A slice of bytes that is nil or lies in one block below B. -/
def Sl (W : World) (B : Nat) (sv : Value) (l : List UInt8) : Prop :=
  (sv = .slice none 0 0 ∧ l = []) ∨ ∃ b off cap, sv = .slice (some ⟨b, off, none⟩) l.length cap ∧ l.length ≤ cap ∧ b < B ∧ ∀ j u, (bytesV l)[j]? = some u → W.cell? ⟨b, off + j, none⟩ = some u
theorem Sl.below {W W' : World} {B : Nat} {sv : Value} {l : List UInt8} (h : Sl W B sv l) (hb : Below B W W') : Sl W' B sv l := by
  rcases h with h | ⟨b, off, cap, h1, h2, h3, h4⟩
  · exact Or.inl h
  · exact Or.inr ⟨b, off, cap, h1, h2, h3, fun j u hj => (hb.cell (p := ⟨b, off + j, none⟩) h3).trans (h4 j u hj)⟩
theorem bytesV_take {l : List UInt8} {m : Nat} {W : World} {b off : Nat} (hm : m ≤ l.length) (h : ∀ j u, (bytesV l)[j]? = some u → W.cell? ⟨b, off + j, none⟩ = some u) (c : Nat) :
    (convert 55 9 (.slice (some ⟨b, off, none⟩) m c)).run Try.prog W = .ok (.string ⟨(l.take m).toArray⟩) W := by
  have hlen : (l.take m).length = m := by rw [List.length_take]; omega
  have h2 := run_convert_bytes_arg (P := Try.prog) W 55 5 Try.underlying55 Try.underlying5 b off m c ((l.take m).map fun c => (c.toNat : Int)) (by rw [List.length_map, hlen]) (by
    intro i hi
    have hi' : i < l.length := by omega
    have hg : (bytesV l)[i]? = some (.int .u8 (l[i].toNat : Int)) := by
      unfold bytesV
      rw [List.getElem?_map, List.getElem?_eq_getElem hi']; rfl
    rw [h _ _ hg]
    simp [List.getD, List.getElem?_take_of_lt hi, List.getElem?_eq_getElem hi']) 9 Try.underlying9
  rw [h2]
  congr 3
  unfold strOfNums
  congr 2
  rw [List.map_map]
  conv => rhs; rw [← List.map_id (l.take m)]
  apply List.map_congr_left
  intro c _
  simp
theorem conv_nil (W : World) : (convert 55 9 (.slice none 0 0)).run Try.prog W = .ok (.string ByteArray.empty) W :=
  run_convert_bytes_nil W 55 5 Try.underlying55 Try.underlying5 0 0 9 Try.underlying9
set_option maxHeartbeats 800000 in
theorem take_n (Br b off n cap m : Nat) (l : List UInt8) (w : World) (hl : l.length = n) (hcap : n ≤ cap) (hm : m ≤ n) (hbx : w.cell? ⟨Br, 0, none⟩ = some (.slice (some ⟨b, off, none⟩) n cap)) (hfz : w.frozen? ⟨Br, 0, none⟩ = false)
    (h1 : ∀ j u, (bytesV l)[j]? = some u → w.cell? ⟨b, off + j, none⟩ = some u) :
    Calls Try.prog 52 #[.pointer (some ⟨Br, 0, none⟩), .int .i64 m] w fun e w' => e = .returned (.string ⟨(l.take m).toArray⟩) ∧ ∃ o2, w' = w.setCell ⟨Br, 0, none⟩ (.slice (some ⟨b, o2, none⟩) (n - m) (cap - m)) ∧ (m < n → o2 = off + m) := by
  have hcv := bytesV_take (by omega : m ≤ l.length) h1
  have H1 : Hid (∀ j u, (bytesV l)[j]? = some u → w.cell? ⟨b, off + j, none⟩ = some u) := h1
  have hmi : (m : Int) ≤ (n : Int) := by omega
  have hni : (n : Int) ≤ (cap : Int) := by omega
  clear h1 hl
  go_enter Try.func52, Try.ntmps52
  go_wp2_with fail
  all_goals (go_ret; refine ⟨rfl, _, rfl, fun hlt => ?_⟩; first | rfl | omega)
set_option maxHeartbeats 800000 in
theorem take_nil (Br : Nat) (w : World) (hbx : w.cell? ⟨Br, 0, none⟩ = some (.slice none 0 0)) (hfz : w.frozen? ⟨Br, 0, none⟩ = false) :
    Calls Try.prog 52 #[.pointer (some ⟨Br, 0, none⟩), .int .i64 0] w fun e w' => e = .returned (.string ByteArray.empty) ∧ w' = w.setCell ⟨Br, 0, none⟩ (.slice none 0 0) := by
  have hcv := conv_nil
  go_enter Try.func52, Try.ntmps52
  go_wp2_with fail
  go_ret
  exact ⟨rfl, rfl⟩
/-- What a reader panics with. -/
def pch : List PanicEntry := [{ v := .iface 93 (.agg #[]), recovered := false }]
set_option maxHeartbeats 800000 in
theorem take_no (Br m n cap : Nat) (ao : Option Addr) (w : World) (hm : n < m) (hbx : w.cell? ⟨Br, 0, none⟩ = some (.slice ao n cap)) :
    Calls Try.prog 52 #[.pointer (some ⟨Br, 0, none⟩), .int .i64 m] w fun e w' => e = .panicked pch ∧ w' = w := by
  go_enter Try.func52, Try.ntmps52
  go_wp2_with fail
  exact ⟨rfl, rfl, rfl⟩
theorem Sl.len {W : World} {B : Nat} {sv : Value} {l : List UInt8} (h : Sl W B sv l) : ∃ ao cap, sv = .slice ao l.length cap := by
  rcases h with ⟨rfl, rfl⟩ | ⟨b, off, cap, h1, h2, h3, h4⟩
  · exact ⟨none, 0, rfl⟩
  · exact ⟨_, _, h1⟩
theorem bytesV_drop {W : World} {b off o2 m : Nat} {l : List UInt8} (ho : m < l.length → o2 = off + m) (h : ∀ j u, (bytesV l)[j]? = some u → W.cell? ⟨b, off + j, none⟩ = some u) :
    ∀ j u, (bytesV (l.drop m))[j]? = some u → W.cell? ⟨b, o2 + j, none⟩ = some u := by
  intro j u hj
  have hlt : m < l.length := by
    rcases Nat.lt_or_ge m l.length with h1 | h1
    · exact h1
    · rw [List.drop_eq_nil_of_le h1] at hj; cases hj
  rw [ho hlt, Nat.add_assoc]
  apply h
  unfold bytesV at hj ⊢
  rw [List.getElem?_map] at hj ⊢
  rw [List.getElem?_drop] at hj
  exact hj
/-- The reader's box: what is left to be read. -/
def Rdr (W : World) (B Br : Nat) (l : List UInt8) : Prop := B ≤ Br ∧ ∃ sv, Boxed W Br 84 sv ∧ Sl W B sv l
theorem grownBy_refl (w : World) (row : Option Nat) : w.grownBy w row := ⟨rfl, rfl, rfl, Nat.le_refl _, fun _ _ _ => rfl⟩
theorem grownBy_trans {a b c : World} {row : Option Nat} (h : a.grownBy b row) (k : b.grownBy c row) : a.grownBy c row :=
  ⟨k.os.trans h.os, k.tape.trans h.tape, k.output.trans h.output, Nat.le_trans h.size k.size, fun i hi hne => (k.block i (Nat.lt_of_lt_of_le hi h.size) hne).trans (h.block i hi hne)⟩
theorem Rdr.set {W : World} {B Br : Nat} {sv sv' : Value} {l : List UInt8} (hB : B ≤ Br) (hb : Boxed W Br 84 sv) (h : Sl W B sv' l) : Rdr (W.setCell ⟨Br, 0, none⟩ sv') B Br l :=
  ⟨hB, sv', hb.set sv', h.below ((Below.refl B W).setCell (p := ⟨Br, 0, none⟩) hB _)⟩
theorem take_ok {W : World} {B Br m : Nat} {l : List UInt8} (h : Rdr W B Br l) (hm : m ≤ l.length) :
    Calls Try.prog 52 #[.pointer (some ⟨Br, 0, none⟩), .int .i64 m] W fun e W' => e = .returned (.string ⟨(l.take m).toArray⟩) ∧ Rdr W' B Br (l.drop m) ∧ W.grownBy W' (some Br) := by
  obtain ⟨hB, sv, hb, hs⟩ := h
  rcases hs with ⟨rfl, rfl⟩ | ⟨b, off, cap, rfl, h2, h3, h4⟩
  · obtain rfl : m = 0 := by simpa using hm
    refine (take_nil Br W hb.cell hb.frozen).mono ?_
    rintro e W' ⟨rfl, rfl⟩
    exact ⟨rfl, Rdr.set hB hb (Or.inl ⟨rfl, rfl⟩), grownBy_setCell' _ _ _⟩
  · refine (take_n Br b off l.length cap m l W rfl h2 hm hb.cell hb.frozen h4).mono ?_
    rintro e W' ⟨rfl, o2, rfl, ho⟩
    refine ⟨rfl, Rdr.set hB hb (Or.inr ⟨b, o2, cap - m, by rw [List.length_drop], by rw [List.length_drop]; omega, h3, bytesV_drop ho h4⟩), grownBy_setCell' _ _ _⟩
theorem take_bad {W : World} {B Br m : Nat} {l : List UInt8} (h : Rdr W B Br l) (hm : l.length < m) :
    Calls Try.prog 52 #[.pointer (some ⟨Br, 0, none⟩), .int .i64 m] W fun e W' => e = .panicked pch ∧ W' = W := by
  obtain ⟨hB, sv, hb, hs⟩ := h
  obtain ⟨ao, cap, rfl⟩ := hs.len
  exact take_no Br m l.length cap ao W hm hb.cell
theorem byte_at (c : UInt8) : wrap64 (((ByteArray.mk #[c])[0]'(by show 0 < 1; omega)).toNat : Int) = (c.toNat : Int) := by
  have := c.toNat_lt
  show wrap64 (c.toNat : Int) = _
  exact IntWalk.wrap64_in _ ⟨by omega, by omega⟩
set_option maxHeartbeats 800000 in
theorem field_ok {W : World} {B Br : Nat} {c : UInt8} {l : List UInt8} (h : Rdr W B Br (c :: l)) (hm : c.toNat ≤ l.length) :
    Calls Try.prog 51 #[.pointer (some ⟨Br, 0, none⟩)] W fun e W' => e = .returned (.string ⟨(l.take c.toNat).toArray⟩) ∧ Rdr W' B Br (l.drop c.toNat) ∧ W.grownBy W' (some Br) := by
  go_enter Try.func51, Try.ntmps51
  go_wp2_with fail
  refine (take_ok (m := 1) h (by simp)).mono ?_
  rintro e W1 ⟨rfl, h1, hg1⟩
  go_wp2_with fail
  rw [byte_at c]
  refine (take_ok (m := c.toNat) (l := l) h1 hm).mono ?_
  rintro e W2 ⟨rfl, h2, hg2⟩
  go_wp2_with fail
  go_ret
  exact ⟨rfl, h2, grownBy_trans hg1 hg2⟩
set_option maxHeartbeats 800000 in
theorem field_long {W : World} {B Br : Nat} {c : UInt8} {l : List UInt8} (h : Rdr W B Br (c :: l)) (hm : l.length < c.toNat) :
    Calls Try.prog 51 #[.pointer (some ⟨Br, 0, none⟩)] W fun e W' => e = .panicked pch ∧ W.grownBy W' (some Br) := by
  go_enter Try.func51, Try.ntmps51
  go_wp2_with fail
  refine (take_ok (m := 1) h (by simp)).mono ?_
  rintro e W1 ⟨rfl, h1, hg1⟩
  go_wp2_with fail
  rw [byte_at c]
  refine (take_bad (m := c.toNat) (l := l) h1 hm).mono ?_
  rintro e W2 ⟨rfl, rfl⟩
  exact ⟨rfl, rfl, hg1⟩
set_option maxHeartbeats 800000 in
theorem field_nil {W : World} {B Br : Nat} (h : Rdr W B Br []) :
    Calls Try.prog 51 #[.pointer (some ⟨Br, 0, none⟩)] W fun e W' => e = .panicked pch ∧ W.grownBy W' (some Br) := by
  go_enter Try.func51, Try.ntmps51
  go_wp2_with fail
  refine (take_bad (m := 1) h (by simp)).mono ?_
  rintro e W2 ⟨rfl, rfl⟩
  exact ⟨rfl, rfl, grownBy_refl _ _⟩
/-- A Varint and as many bytes. -/
def fld : List UInt8 → Option (List UInt8 × List UInt8)
  | [] => none
  | c :: l => if c.toNat ≤ l.length then some (l.take c.toNat, l.drop c.toNat) else none
theorem fld_cons (c : UInt8) (l : List UInt8) : fld (c :: l) = if c.toNat ≤ l.length then some (l.take c.toNat, l.drop c.toNat) else none := rfl
theorem field_some {W : World} {B Br : Nat} {l f r : List UInt8} (h : Rdr W B Br l) (hf : fld l = some (f, r)) :
    Calls Try.prog 51 #[.pointer (some ⟨Br, 0, none⟩)] W fun e W' => e = .returned (.string ⟨f.toArray⟩) ∧ Rdr W' B Br r ∧ W.grownBy W' (some Br) := by
  cases l with
  | nil => cases hf
  | cons c l =>
    rw [fld_cons] at hf
    split at hf
    · rename_i hm
      cases hf
      exact field_ok h hm
    · cases hf
theorem field_none {W : World} {B Br : Nat} {l : List UInt8} (h : Rdr W B Br l) (hf : fld l = none) :
    Calls Try.prog 51 #[.pointer (some ⟨Br, 0, none⟩)] W fun e W' => e = .panicked pch ∧ W.grownBy W' (some Br) := by
  cases l with
  | nil => exact field_nil h
  | cons c l =>
    rw [fld_cons] at hf
    split at hf
    · cases hf
    · rename_i hm
      exact field_long h (by omega)
end Go.Proofs.Ytghlcllmfenoiaa

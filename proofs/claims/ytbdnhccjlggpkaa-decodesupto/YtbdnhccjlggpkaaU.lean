import Derived.Test.YtbdnhccjlggpkaaT
namespace Go.Proofs.Ytbdnhccjlggpkaa
open Go.RowKit
theorem grownBy_refl (w : World) (row : Option Nat) : w.grownBy w row := ⟨rfl, rfl, rfl, Nat.le_refl _, fun _ _ _ => rfl⟩
theorem grownBy_trans {a b c : World} {row : Option Nat} (h : a.grownBy b row) (k : b.grownBy c row) : a.grownBy c row :=
  ⟨k.os.trans h.os, k.tape.trans h.tape, k.output.trans h.output, Nat.le_trans h.size k.size, fun i hi hne => (k.block i (Nat.lt_of_lt_of_le hi h.size) hne).trans (h.block i hi hne)⟩
/-- A slice of bytes that may be appended to: nil, or a part of a row of bytes from B on. -/
def RS (W : World) (B : Nat) (v : Value) (l : List UInt8) : Prop :=
  (v = .slice none 0 0 ∧ l = []) ∨ ∃ b off cap cur, v = .slice (some ⟨b, off, none⟩) l.length cap ∧ l.length ≤ cap ∧ B ≤ b ∧ W.heap[b]? = some (.cells cur 5 (0, 0)) ∧ (0 < cap → off + cap ≤ cur.size) ∧ ∀ j u, (bytesV l)[j]? = some u → cur[off + j]? = some u
/-- The reader's box. -/
def Box3 (W : World) (R : Nat) (a b c : Value) : Prop := W.heap[R]? = some (.cells #[a, b, c] 97 (0, 0))
theorem Box3.lt {W : World} {R : Nat} {a b c : Value} (h : Box3 W R a b c) : R < W.heap.size := (Array.getElem?_eq_some_iff.1 h).1
theorem Box3.c0 {W : World} {R : Nat} {a b c : Value} (h : Box3 W R a b c) : W.cell? ⟨R, 0, none⟩ = some a := by simp [World.cell?, show W.heap[R]? = _ from h]
theorem Box3.c1 {W : World} {R : Nat} {a b c : Value} (h : Box3 W R a b c) : W.cell? ⟨R, 1, none⟩ = some b := by simp [World.cell?, show W.heap[R]? = _ from h]
theorem Box3.c2 {W : World} {R : Nat} {a b c : Value} (h : Box3 W R a b c) : W.cell? ⟨R, 2, none⟩ = some c := by simp [World.cell?, show W.heap[R]? = _ from h]
theorem Box3.f {W : World} {R : Nat} {a b c : Value} (h : Box3 W R a b c) (o : Nat) : W.frozen? ⟨R, o, none⟩ = false := by simp [World.frozen?, show W.heap[R]? = _ from h]
theorem Box3.set0 {W : World} {R : Nat} {a b c : Value} (h : Box3 W R a b c) (u : Value) : Box3 (W.setCell ⟨R, 0, none⟩ u) R u b c := by
  obtain ⟨hlt, hk⟩ := Array.getElem?_eq_some_iff.1 h
  show (W.heap.modify R _)[R]? = _
  rw [Array.getElem?_eq_getElem (by rw [Array.size_modify]; exact hlt), Array.getElem_modify_self, hk]
  rfl
theorem Box3.set1 {W : World} {R : Nat} {a b c : Value} (h : Box3 W R a b c) (u : Value) : Box3 (W.setCell ⟨R, 1, none⟩ u) R a u c := by
  obtain ⟨hlt, hk⟩ := Array.getElem?_eq_some_iff.1 h
  show (W.heap.modify R _)[R]? = _
  rw [Array.getElem?_eq_getElem (by rw [Array.size_modify]; exact hlt), Array.getElem_modify_self, hk]
  rfl
theorem Box3.set2 {W : World} {R : Nat} {a b c : Value} (h : Box3 W R a b c) (u : Value) : Box3 (W.setCell ⟨R, 2, none⟩ u) R a b u := by
  obtain ⟨hlt, hk⟩ := Array.getElem?_eq_some_iff.1 h
  show (W.heap.modify R _)[R]? = _
  rw [Array.getElem?_eq_getElem (by rw [Array.size_modify]; exact hlt), Array.getElem_modify_self, hk]
  rfl
theorem cell_of_block {W : World} {b : Nat} {cur : Array Value} {t : TypeId} (h : W.heap[b]? = some (.cells cur t (0, 0))) (o : Nat) : W.cell? ⟨b, o, none⟩ = cur[o]? := by
  simp [World.cell?, h]
/-- What a reader holds. -/
def Rdr (W : World) (B Br : Nat) (l : List UInt8) (s x : Bool) : Prop := ∃ sv, Box3 W Br sv (.bool s) (.bool x) ∧ RS W B sv l
theorem RS.keep {W W' : World} {B : Nat} {v : Value} {l : List UInt8} (h : RS W B v l) (hk : ∀ b cur, B ≤ b → W.heap[b]? = some (.cells cur 5 (0, 0)) → W'.heap[b]? = some (.cells cur 5 (0, 0))) : RS W' B v l := by
  rcases h with h | ⟨b, off, cap, cur, h1, h2, h3, h4, h5⟩
  · exact Or.inl h
  · exact Or.inr ⟨b, off, cap, cur, h1, h2, h3, hk b cur h3 h4, h5⟩
theorem RS.set {W : World} {B Br o : Nat} {v u : Value} {l : List UInt8} {a b c : Value} (h : RS W B v l) (hb : Box3 W Br a b c) : RS (W.setCell ⟨Br, o, none⟩ u) B v l :=
  h.keep fun k cur _ hk => by
    have hne : k ≠ Br := by
      intro e; subst e
      rw [show W.heap[k]? = _ from hb] at hk
      simp at hk
    exact (Below.heap_setCell W ⟨Br, o, none⟩ u k hne).trans hk
theorem RS.len {W : World} {B : Nat} {sv : Value} {l : List UInt8} (h : RS W B sv l) : ∃ ao cap, sv = .slice ao l.length cap ∧ l.length ≤ cap := by
  rcases h with ⟨rfl, rfl⟩ | ⟨b, off, cap, cur, h1, h2, h3⟩
  · exact ⟨none, 0, rfl, Nat.le_refl _⟩
  · exact ⟨_, _, h1, h2⟩
theorem bytesV_getElem (l : List UInt8) (i : Nat) (hi : i < l.length) : (bytesV l)[i]? = some (.int .u8 (l[i].toNat : Int)) := by
  unfold bytesV
  rw [List.getElem?_map, List.getElem?_eq_getElem hi]; rfl
theorem bytes_str {l : List UInt8} {W : World} {b off : Nat} (h : ∀ j u, (bytesV l)[j]? = some u → W.cell? ⟨b, off + j, none⟩ = some u) (c : Nat) :
    (convert 55 9 (.slice (some ⟨b, off, none⟩) l.length c)).run Try.prog W = .ok (.string ⟨l.toArray⟩) W := by
  have h2 := run_convert_bytes_arg (P := Try.prog) W 55 5 Try.underlying55 Try.underlying5 b off l.length c (l.map fun c => (c.toNat : Int)) (by rw [List.length_map]) (by
    intro i hi
    rw [h _ _ (bytesV_getElem l i hi)]
    simp [List.getD, List.getElem?_eq_getElem hi]) 9 Try.underlying9
  rw [h2, strOf_bytes]
set_option maxRecDepth 100000 in
set_option maxHeartbeats 1600000 in
theorem field_walk (Br b off n cap m : Nat) (c : UInt8) (l f : List UInt8) (W : World) (hl : l.length + 1 = n) (hcap : n ≤ cap) (hm : c.toNat = m) (hm2 : m + 1 ≤ n) (hf : l.take m = f) (hbx : W.cell? ⟨Br, 0, none⟩ = some (.slice (some ⟨b, off, none⟩) n cap)) (hfz : W.frozen? ⟨Br, 0, none⟩ = false)
    (h1 : ∀ j u, (bytesV (c :: l))[j]? = some u → W.cell? ⟨b, off + j, none⟩ = some u) (hmax : n ≤ 268435456) (hc1 : ¬ cap = 1) :
    Calls Try.prog 56 #[.pointer (some ⟨Br, 0, none⟩)] W fun e w' => e = .returned (.string ⟨f.toArray⟩) ∧ ∃ o2, w' = W.setCell ⟨Br, 0, none⟩ (.slice (some ⟨b, o2, none⟩) (n - (1 + m)) (cap - (1 + m))) ∧ (1 + m < cap → o2 = off + (1 + m)) := by
  have hc0 : W.cell? ⟨b, off, none⟩ = some (.int .u8 (m : Int)) := by
    have := h1 0 _ (bytesV_getElem (c :: l) 0 (by simp))
    rw [Nat.add_zero] at this
    rw [this]
    simp [hm]
  have hw : IntKind.i64.wrap (1 + (m : Int)) = 1 + (m : Int) := wrap_small _ (by omega) (by omega)
  have hm255 : m < 256 := by rw [← hm]; exact c.toNat_lt
  have hfl : f.length = m := by rw [← hf, List.length_take]; omega
  have hcv : ∀ cc, (convert 55 9 (.slice (some ⟨b, off + 1, none⟩) m cc)).run Try.prog W = .ok (.string ⟨f.toArray⟩) W := fun cc => by
    have := bytes_str (l := f) (W := W) (b := b) (off := off + 1) (fun j u hj => by
      have hjl : j < f.length := by have := (List.getElem?_eq_some_iff.1 hj).1; unfold bytesV at this; simpa using this
      rw [bytesV_getElem f j hjl] at hj
      have := h1 (1 + j) _ (bytesV_getElem (c :: l) (1 + j) (by rw [List.length_cons]; omega))
      rw [show off + 1 + j = off + (1 + j) from by omega, this, ← hj]
      congr 3
      have e : (c :: l)[1 + j]'(by rw [List.length_cons]; omega) = l[j]'(by omega) := by
        rw [List.getElem_cons]
        split
        · omega
        · congr 1; omega
      rw [e]
      subst hf
      rw [List.getElem_take]) cc
    rwa [hfl] at this
  have hi1 : (1 : Int) ≤ 1 + (m : Int) := by omega
  have hi2 : 1 + (m : Int) ≤ (n : Int) := by omega
  have hi3 : (n : Int) ≤ (cap : Int) := by omega
  have HF : Hid (l.take m = f ∧ f.length = m) := ⟨hf, hfl⟩
  clear h1 hl hf hm hfl
  go_enter Try.func56, Try.ntmps56
  go_wp2_with fail
  all_goals (go_ret; first | exact ⟨rfl, _, rfl, fun _ => rfl⟩ | exact ⟨rfl, _, rfl⟩)
set_option maxRecDepth 100000 in
set_option maxHeartbeats 1600000 in
theorem field_walk1 (Br b off : Nat) (W : World) (hbx : W.cell? ⟨Br, 0, none⟩ = some (.slice (some ⟨b, off, none⟩) 1 1)) (hfz : W.frozen? ⟨Br, 0, none⟩ = false)
    (hc0 : W.cell? ⟨b, off, none⟩ = some (.int .u8 0)) :
    Calls Try.prog 56 #[.pointer (some ⟨Br, 0, none⟩)] W fun e w' => e = .returned (.string ⟨#[]⟩) ∧ w' = W.setCell ⟨Br, 0, none⟩ (.slice (some ⟨b, off, none⟩) 0 0) := by
  have hcv : ∀ cc, (convert 55 9 (.slice (some ⟨b, off, none⟩) 0 cc)).run Try.prog W = .ok (.string ⟨#[]⟩) W := fun cc =>
    bytes_str (l := []) (W := W) (b := b) (off := off) (fun j u hj => by simp [bytesV] at hj) cc
  go_enter Try.func56, Try.ntmps56
  go_wp2_with fail
  go_ret
  exact ⟨rfl, rfl⟩
theorem field_ok {W : World} {B Br : Nat} {c : UInt8} {l : List UInt8} {s x : Bool} (h : Rdr W B Br (c :: l) s x) (hm : c.toNat ≤ l.length) (hmax : (c :: l).length ≤ 268435456) :
    Calls Try.prog 56 #[.pointer (some ⟨Br, 0, none⟩)] W fun e W' => e = .returned (.string ⟨(l.take c.toNat).toArray⟩) ∧ Rdr W' B Br (l.drop c.toNat) s x ∧ W.grownBy W' (some Br) := by
  obtain ⟨sv, hb, hs⟩ := h
  rcases hs with ⟨_, h0⟩ | ⟨b, off, cap, cur, rfl, h2, h3, h4, h5, h6⟩
  · cases h0
  have hcell : ∀ j u, (bytesV (c :: l))[j]? = some u → W.cell? ⟨b, off + j, none⟩ = some u := fun j u hj => (cell_of_block h4 _).trans (h6 j u hj)
  rw [List.length_cons] at h2 hmax hb
  by_cases hc1 : cap = 1
  · subst hc1
    obtain rfl : l = [] := List.eq_nil_of_length_eq_zero (by omega)
    have hc0 : c.toNat = 0 := by simpa using hm
    have hz := hcell 0 _ (bytesV_getElem [c] 0 (by simp))
    rw [Nat.add_zero] at hz
    refine (field_walk1 Br b off W hb.c0 (hb.f 0) (by rw [hz]; simp [hc0])).mono ?_
    rintro e W' ⟨rfl, rfl⟩
    refine ⟨by simp, ⟨_, hb.set0 _, RS.set (Or.inr ⟨b, off, 0, cur, by simp, by simp, h3, h4, fun h => by omega, fun j u hj => by simp [bytesV] at hj⟩) hb⟩, grownBy_setCell' _ _ _⟩
  · refine (field_walk Br b off (l.length + 1) cap c.toNat c l _ W rfl h2 rfl (by omega) rfl hb.c0 (hb.f 0) hcell hmax hc1).mono ?_
    rintro e W' ⟨rfl, o2, rfl, ho⟩
    have hn : l.length + 1 - (1 + c.toNat) = (l.drop c.toNat).length := by rw [List.length_drop]; omega
    rw [hn]
    refine ⟨rfl, ⟨_, hb.set0 _, RS.set (Or.inr ⟨b, o2, cap - (1 + c.toNat), cur, rfl, by rw [List.length_drop]; omega, h3, h4, fun h => ?_, fun j u hj => ?_⟩) hb⟩, grownBy_setCell' _ _ _⟩
    · rw [ho (by omega)]
      have := h5 (by omega)
      omega
    · have hjl : j < (l.drop c.toNat).length := by have := (List.getElem?_eq_some_iff.1 hj).1; unfold bytesV at this; simpa using this
      rw [List.length_drop] at hjl
      rw [ho (by omega)]
      have := h6 (1 + c.toNat + j) u (by
        rw [← hj]
        unfold bytesV
        rw [List.getElem?_map, List.getElem?_map, List.getElem?_drop, show 1 + c.toNat + j = (c.toNat + j) + 1 from by omega, List.getElem?_cons_succ])
      rw [← this]
      congr 1
      omega
theorem field_some {W : World} {B Br : Nat} {l f r : List UInt8} {s x : Bool} (h : Rdr W B Br l s x) (hf : fld l = some (f, r)) (hmax : l.length ≤ 268435456) :
    Calls Try.prog 56 #[.pointer (some ⟨Br, 0, none⟩)] W fun e W' => e = .returned (.string ⟨f.toArray⟩) ∧ Rdr W' B Br r s x ∧ W.grownBy W' (some Br) := by
  cases l with
  | nil => cases hf
  | cons c l =>
    rw [fld_cons] at hf
    split at hf
    · rename_i hm
      cases hf
      exact field_ok h hm hmax
    · cases hf
end Go.Proofs.Ytbdnhccjlggpkaa

import Derived.Test.YtghlcllmfenoiaaT
namespace Go.Proofs.Ytghlcllmfenoiaa
open Go.RowKit
def one (l : List UInt8) : Option (RecB × List UInt8) :=
  match fld l with
  | none => none
  | some (k, r) => match fld r with
    | none => none
    | some (v, s) => if isKeyL k = true ∧ v.length ≤ 100 then some ((⟨k.toArray⟩, ⟨v.toArray⟩), s) else none
/-- A box of two cells. -/
def Box2 (W : World) (R : Nat) (a b : Value) : Prop := W.heap[R]? = some (.cells #[a, b] 41 (0, 0))
theorem Box2.lt {W : World} {R : Nat} {a b : Value} (h : Box2 W R a b) : R < W.heap.size := (Array.getElem?_eq_some_iff.1 h).1
theorem Box2.c0 {W : World} {R : Nat} {a b : Value} (h : Box2 W R a b) : W.cell? ⟨R, 0, none⟩ = some a := (cell_box h).1
theorem Box2.c1 {W : World} {R : Nat} {a b : Value} (h : Box2 W R a b) : W.cell? ⟨R, 1, none⟩ = some b := (cell_box h).2
theorem Box2.f {W : World} {R : Nat} {a b : Value} (h : Box2 W R a b) (o : Nat) : W.frozen? ⟨R, o, none⟩ = false := by simp [World.frozen?, show W.heap[R]? = _ from h]
theorem Box2.kept {W W' : World} {R Br : Nat} {a b : Value} (h : Box2 W R a b) (hg : W.grownBy W' (some Br)) (hne : R ≠ Br) : Box2 W' R a b := (hg.block R h.lt (fun e => hne (by cases e; rfl))).trans h
theorem Box2.alloc {W : World} {R : Nat} {a b : Value} (h : Box2 W R a b) (o : Obj) : Box2 (W.alloc o) R a b := (Below.heap_alloc W o R h.lt).trans h
theorem Box2.below {W W' : World} {R : Nat} {a b : Value} (h : Box2 W R a b) (hb : Below W.heap.size W W') : Box2 W' R a b := (hb.block R h.lt).trans h
theorem Box2.set0 {W : World} {R : Nat} {a b : Value} (h : Box2 W R a b) (u : Value) : Box2 (W.setCell ⟨R, 0, none⟩ u) R u b := by
  obtain ⟨hlt, hk⟩ := Array.getElem?_eq_some_iff.1 h
  show (W.heap.modify R _)[R]? = _
  rw [Array.getElem?_eq_getElem (by rw [Array.size_modify]; exact hlt), Array.getElem_modify_self, hk]
  rfl
theorem Box2.set1 {W : World} {R : Nat} {a b : Value} (h : Box2 W R a b) (u : Value) : Box2 (W.setCell ⟨R, 1, none⟩ u) R a u := by
  obtain ⟨hlt, hk⟩ := Array.getElem?_eq_some_iff.1 h
  show (W.heap.modify R _)[R]? = _
  rw [Array.getElem?_eq_getElem (by rw [Array.size_modify]; exact hlt), Array.getElem_modify_self, hk]
  rfl
theorem Box2.other {W : World} {R R' o : Nat} {a b : Value} (h : Box2 W R a b) (hne : R ≠ R') (u : Value) : Box2 (W.setCell ⟨R', o, none⟩ u) R a b := (Below.heap_setCell W ⟨R', o, none⟩ u R hne).trans h
theorem Rdr.keep {W W' : World} {B Br : Nat} {l : List UInt8} (h : Rdr W B Br l) (hb : Below (Br + 1) W W') : Rdr W' B Br l := by
  obtain ⟨hB, sv, hx, hs⟩ := h
  exact ⟨hB, sv, (hb.block Br (by omega)).trans hx, hs.below (hb.mono (by omega))⟩
theorem Rdr.lt {W : World} {B Br : Nat} {l : List UInt8} (h : Rdr W B Br l) : Br < W.heap.size := by
  obtain ⟨_, _, hx, _⟩ := h; exact hx.lt
/-- The two boxes that record lays. -/
theorem rec_start {W : World} {B Br : Nat} {l : List UInt8} (h : Rdr W B Br l) {W0 : World}
    (e : (W.alloc (.cells #[.string ⟨#[]⟩, .string ⟨#[]⟩] 41)).alloc (.cells #[.string ⟨#[]⟩, .string ⟨#[]⟩] 41) = W0) :
    Rdr W0 B Br l ∧ Box2 W0 W.heap.size (.string ⟨#[]⟩) (.string ⟨#[]⟩) ∧ Box2 W0 (W.heap.size + 1) (.string ⟨#[]⟩) (.string ⟨#[]⟩) ∧ W.grownBy W0 (some Br) := by
  have hlt := h.lt
  subst e
  refine ⟨h.keep (((Below.refl (Br + 1) W).alloc hlt _).alloc (by simp; omega) _), ?_, ?_, ?_⟩
  · exact Box2.alloc (heap_alloc_new W _) _
  · have := heap_alloc_new (W.alloc (.cells #[.string ⟨#[]⟩, .string ⟨#[]⟩] 41)) (.cells #[.string ⟨#[]⟩, .string ⟨#[]⟩] 41)
    rw [World.size_alloc] at this
    exact this
  · exact grownBy_trans (World.grownBy_alloc _ _ _) (World.grownBy_alloc _ _ _)
theorem grown_set {W W' : World} {Br R o : Nat} {u : Value} (hg : W.grownBy W' (some Br)) (hR : W.heap.size ≤ R) : W.grownBy (W'.setCell ⟨R, o, none⟩ u) (some Br) :=
  ⟨hg.os, hg.tape, hg.output, by have := hg.size; simpa using this, fun k hk hne => (Below.heap_setCell W' ⟨R, o, none⟩ u k (by show k ≠ R; omega)).trans (hg.block k hk hne)⟩
theorem grown_below {W W' W'' : World} {Br : Nat} (hg : W.grownBy W' (some Br)) (hb : Below W'.heap.size W' W'') : W.grownBy W'' (some Br) :=
  ⟨hb.os.trans hg.os, hb.tape.trans hg.tape, hb.output.trans hg.output, Nat.le_trans hg.size hb.size, fun k hk hne => (hb.block k (Nat.lt_of_lt_of_le hk hg.size)).trans (hg.block k hk hne)⟩
theorem Rdr.set2 {W : World} {B Br R o : Nat} {l : List UInt8} {u : Value} (h : Rdr W B Br l) (hR : Br < R) : Rdr (W.setCell ⟨R, o, none⟩ u) B Br l :=
  h.keep ((Below.refl (Br + 1) W).setCell (p := ⟨R, o, none⟩) (by show Br + 1 ≤ R; omega) u)
set_option maxHeartbeats 1600000 in
theorem record_some {W : World} {B Br : Nat} {l k r v s : List UInt8} (h : Rdr W B Br l) (hf1 : fld l = some (k, r)) (hf2 : fld r = some (v, s)) (hk : isKeyL k = true) (hv : v.length ≤ 100) :
    Calls Try.prog 46 #[.pointer (some ⟨Br, 0, none⟩)] W fun e W' => e = .returned (.agg #[.string ⟨k.toArray⟩, .string ⟨v.toArray⟩]) ∧ Rdr W' B Br s ∧ W.grownBy W' (some Br) := by
  have hlt := h.lt
  have HF1 : Hid (fld l = some (k, r)) := hf1
  have HF2 : Hid (fld r = some (v, s)) := hf2
  have hkn : (!isKeyL k) = false := by rw [hk]; rfl
  clear hf1 hf2 hk
  go_enter Try.func46, Try.ntmps46
  go_wp2_with fail
  generalize hW0 : (W.alloc (Obj.cells #[Value.string ⟨#[]⟩, Value.string ⟨#[]⟩] 41)).alloc (Obj.cells #[Value.string ⟨#[]⟩, Value.string ⟨#[]⟩] 41) = W0
  obtain ⟨h0, a0, b0, g0⟩ := rec_start h hW0
  clear hW0 h
  refine (field_some h0 HF1.out).mono ?_
  rintro e W1 ⟨rfl, h1, hg1⟩
  have a1 := a0.kept hg1 (by omega)
  have b1 := b0.kept hg1 (by omega)
  have g1 := grownBy_trans g0 hg1
  have bc := b1.c0
  have bf := b1.f 0
  clear h0 a0 b0 g0 hg1
  go_wp2_with fail
  have h2 := h1.set2 (R := W.heap.size + 1) (o := 0) (u := .string ⟨k.toArray⟩) (by omega)
  have a2 := a1.other (R' := W.heap.size + 1) (o := 0) (by omega) (.string ⟨k.toArray⟩)
  have b2 := b1.set0 (.string ⟨k.toArray⟩)
  have g2 := grown_set (o := 0) (u := .string ⟨k.toArray⟩) g1 (by omega : W.heap.size ≤ W.heap.size + 1)
  clear h1 a1 b1 g1 bc bf
  refine (field_some h2 HF2.out).mono ?_
  rintro e W3 ⟨rfl, h3, hg3⟩
  have a3 := a2.kept hg3 (by omega)
  have b3 := b2.kept hg3 (by omega)
  have g3 := grownBy_trans g2 hg3
  have bc := b3.c0
  have bc1 := b3.c1
  have bf := b3.f 1
  clear h2 a2 b2 g2 hg3
  go_wp2_with fail
  have h4 := h3.set2 (R := W.heap.size + 1) (o := 1) (u := .string ⟨v.toArray⟩) (by omega)
  have a4 := a3.other (R' := W.heap.size + 1) (o := 1) (by omega) (.string ⟨v.toArray⟩)
  have b4 := b3.set1 (.string ⟨v.toArray⟩)
  have g4 := grown_set (o := 1) (u := .string ⟨v.toArray⟩) g3 (by omega : W.heap.size ≤ W.heap.size + 1)
  clear h3 a3 b3 g3 bc bc1 bf
  generalize W3.setCell ⟨W.heap.size + 1, 1, none⟩ (.string ⟨v.toArray⟩) = W4 at *
  refine (hasNoKey_any _ _ _).mono ?_
  rintro e W5 ⟨rfl, hb5⟩
  have h5 := h4.keep (hb5.mono h4.lt)
  have a5 := a4.below hb5
  have b5 := b4.below hb5
  have g5 := grown_below g4 hb5
  have bc := b5.c0
  have bc1 := b5.c1
  clear h4 a4 b4 g4 hb5
  go_wp2_with fail
  refine (hasLong_any _ _ _).mono ?_
  rintro e W6 ⟨rfl, hb6⟩
  have h6 := h5.keep (hb6.mono h5.lt)
  have a6 := a5.below hb6
  have b6 := b5.below hb6
  have g6 := grown_below g5 hb6
  clear bc bc1 h5 a5 b5 g5 hb6
  have bc := b6.c0
  have bc1 := b6.c1
  have ac := a6.c0
  have ac1 := a6.c1
  have af := a6.f 0
  have af1 := a6.f 1
  go_wp2_with fail
  refine bodyPost_ret (v := .agg #[.string ⟨k.toArray⟩, .string ⟨v.toArray⟩]) (by simp [results, Try.results46, go_sem, ac, ac1]) rfl ⟨rfl, ?_, ?_⟩
  · exact (h6.set2 (by omega)).set2 (by omega)
  · exact grown_set (grown_set g6 (Nat.le_refl _)) (Nat.le_refl _)
set_option maxHeartbeats 1600000 in
theorem record_n1 {W : World} {B Br : Nat} {l : List UInt8} (h : Rdr W B Br l) (hf1 : fld l = none) :
    Calls Try.prog 46 #[.pointer (some ⟨Br, 0, none⟩)] W fun e W' => e = .panicked pch ∧ W.grownBy W' (some Br) := by
  go_enter Try.func46, Try.ntmps46
  go_wp2_with fail
  generalize hW0 : (W.alloc (Obj.cells #[Value.string ⟨#[]⟩, Value.string ⟨#[]⟩] 41)).alloc (Obj.cells #[Value.string ⟨#[]⟩, Value.string ⟨#[]⟩] 41) = W0
  obtain ⟨h0, a0, b0, g0⟩ := rec_start h hW0
  clear hW0 h
  refine (field_none h0 hf1).mono ?_
  rintro e W1 ⟨rfl, hg1⟩
  exact ⟨rfl, rfl, grownBy_trans g0 hg1⟩
set_option maxHeartbeats 1600000 in
theorem record_n2 {W : World} {B Br : Nat} {l k r : List UInt8} (h : Rdr W B Br l) (hf1 : fld l = some (k, r)) (hf2 : fld r = none) :
    Calls Try.prog 46 #[.pointer (some ⟨Br, 0, none⟩)] W fun e W' => e = .panicked pch ∧ W.grownBy W' (some Br) := by
  have hlt := h.lt
  have HF1 : Hid (fld l = some (k, r)) := hf1
  have HF2 : Hid (fld r = none) := hf2
  clear hf1 hf2
  go_enter Try.func46, Try.ntmps46
  go_wp2_with fail
  generalize hW0 : (W.alloc (Obj.cells #[Value.string ⟨#[]⟩, Value.string ⟨#[]⟩] 41)).alloc (Obj.cells #[Value.string ⟨#[]⟩, Value.string ⟨#[]⟩] 41) = W0
  obtain ⟨h0, a0, b0, g0⟩ := rec_start h hW0
  clear hW0 h
  refine (field_some h0 HF1.out).mono ?_
  rintro e W1 ⟨rfl, h1, hg1⟩
  have a1 := a0.kept hg1 (by omega)
  have b1 := b0.kept hg1 (by omega)
  have g1 := grownBy_trans g0 hg1
  have bc := b1.c0
  have bf := b1.f 0
  clear h0 a0 b0 g0 hg1
  go_wp2_with fail
  have h2 := h1.set2 (R := W.heap.size + 1) (o := 0) (u := .string ⟨k.toArray⟩) (by omega)
  have a2 := a1.other (R' := W.heap.size + 1) (o := 0) (by omega) (.string ⟨k.toArray⟩)
  have b2 := b1.set0 (.string ⟨k.toArray⟩)
  have g2 := grown_set (o := 0) (u := .string ⟨k.toArray⟩) g1 (by omega : W.heap.size ≤ W.heap.size + 1)
  clear h1 a1 b1 g1 bc bf
  refine (field_none h2 HF2.out).mono ?_
  rintro e W3 ⟨rfl, hg3⟩
  exact ⟨rfl, rfl, grownBy_trans g2 hg3⟩
set_option maxHeartbeats 1600000 in
theorem record_n3 {W : World} {B Br : Nat} {l k r v s : List UInt8} (h : Rdr W B Br l) (hf1 : fld l = some (k, r)) (hf2 : fld r = some (v, s)) (hk : isKeyL k = false) :
    Calls Try.prog 46 #[.pointer (some ⟨Br, 0, none⟩)] W fun e W' => e = .panicked pch ∧ W.grownBy W' (some Br) := by
  have hlt := h.lt
  have HF1 : Hid (fld l = some (k, r)) := hf1
  have HF2 : Hid (fld r = some (v, s)) := hf2
  have hkn : (!isKeyL k) = true := by rw [hk]; rfl
  clear hf1 hf2 hk
  go_enter Try.func46, Try.ntmps46
  go_wp2_with fail
  generalize hW0 : (W.alloc (Obj.cells #[Value.string ⟨#[]⟩, Value.string ⟨#[]⟩] 41)).alloc (Obj.cells #[Value.string ⟨#[]⟩, Value.string ⟨#[]⟩] 41) = W0
  obtain ⟨h0, a0, b0, g0⟩ := rec_start h hW0
  clear hW0 h
  refine (field_some h0 HF1.out).mono ?_
  rintro e W1 ⟨rfl, h1, hg1⟩
  have a1 := a0.kept hg1 (by omega)
  have b1 := b0.kept hg1 (by omega)
  have g1 := grownBy_trans g0 hg1
  have bc := b1.c0
  have bf := b1.f 0
  clear h0 a0 b0 g0 hg1
  go_wp2_with fail
  have h2 := h1.set2 (R := W.heap.size + 1) (o := 0) (u := .string ⟨k.toArray⟩) (by omega)
  have a2 := a1.other (R' := W.heap.size + 1) (o := 0) (by omega) (.string ⟨k.toArray⟩)
  have b2 := b1.set0 (.string ⟨k.toArray⟩)
  have g2 := grown_set (o := 0) (u := .string ⟨k.toArray⟩) g1 (by omega : W.heap.size ≤ W.heap.size + 1)
  clear h1 a1 b1 g1 bc bf
  refine (field_some h2 HF2.out).mono ?_
  rintro e W3 ⟨rfl, h3, hg3⟩
  have a3 := a2.kept hg3 (by omega)
  have b3 := b2.kept hg3 (by omega)
  have g3 := grownBy_trans g2 hg3
  have bc := b3.c0
  have bc1 := b3.c1
  have bf := b3.f 1
  clear h2 a2 b2 g2 hg3
  go_wp2_with fail
  have h4 := h3.set2 (R := W.heap.size + 1) (o := 1) (u := .string ⟨v.toArray⟩) (by omega)
  have a4 := a3.other (R' := W.heap.size + 1) (o := 1) (by omega) (.string ⟨v.toArray⟩)
  have b4 := b3.set1 (.string ⟨v.toArray⟩)
  have g4 := grown_set (o := 1) (u := .string ⟨v.toArray⟩) g3 (by omega : W.heap.size ≤ W.heap.size + 1)
  clear h3 a3 b3 g3 bc bc1 bf
  generalize W3.setCell ⟨W.heap.size + 1, 1, none⟩ (.string ⟨v.toArray⟩) = W4 at *
  refine (hasNoKey_any _ _ _).mono ?_
  rintro e W5 ⟨rfl, hb5⟩
  have g5 := grown_below g4 hb5
  clear h4 a4 b4 g4 hb5
  go_wp2_with fail
  exact ⟨rfl, rfl, g5⟩
set_option maxHeartbeats 1600000 in
theorem record_n4 {W : World} {B Br : Nat} {l k r v s : List UInt8} (h : Rdr W B Br l) (hf1 : fld l = some (k, r)) (hf2 : fld r = some (v, s)) (hk : isKeyL k = true) (hv : 100 < v.length) :
    Calls Try.prog 46 #[.pointer (some ⟨Br, 0, none⟩)] W fun e W' => e = .panicked pch ∧ W.grownBy W' (some Br) := by
  have hlt := h.lt
  have HF1 : Hid (fld l = some (k, r)) := hf1
  have HF2 : Hid (fld r = some (v, s)) := hf2
  have hkn : (!isKeyL k) = false := by rw [hk]; rfl
  clear hf1 hf2 hk
  go_enter Try.func46, Try.ntmps46
  go_wp2_with fail
  generalize hW0 : (W.alloc (Obj.cells #[Value.string ⟨#[]⟩, Value.string ⟨#[]⟩] 41)).alloc (Obj.cells #[Value.string ⟨#[]⟩, Value.string ⟨#[]⟩] 41) = W0
  obtain ⟨h0, a0, b0, g0⟩ := rec_start h hW0
  clear hW0 h
  refine (field_some h0 HF1.out).mono ?_
  rintro e W1 ⟨rfl, h1, hg1⟩
  have a1 := a0.kept hg1 (by omega)
  have b1 := b0.kept hg1 (by omega)
  have g1 := grownBy_trans g0 hg1
  have bc := b1.c0
  have bf := b1.f 0
  clear h0 a0 b0 g0 hg1
  go_wp2_with fail
  have h2 := h1.set2 (R := W.heap.size + 1) (o := 0) (u := .string ⟨k.toArray⟩) (by omega)
  have a2 := a1.other (R' := W.heap.size + 1) (o := 0) (by omega) (.string ⟨k.toArray⟩)
  have b2 := b1.set0 (.string ⟨k.toArray⟩)
  have g2 := grown_set (o := 0) (u := .string ⟨k.toArray⟩) g1 (by omega : W.heap.size ≤ W.heap.size + 1)
  clear h1 a1 b1 g1 bc bf
  refine (field_some h2 HF2.out).mono ?_
  rintro e W3 ⟨rfl, h3, hg3⟩
  have a3 := a2.kept hg3 (by omega)
  have b3 := b2.kept hg3 (by omega)
  have g3 := grownBy_trans g2 hg3
  have bc := b3.c0
  have bc1 := b3.c1
  have bf := b3.f 1
  clear h2 a2 b2 g2 hg3
  go_wp2_with fail
  have h4 := h3.set2 (R := W.heap.size + 1) (o := 1) (u := .string ⟨v.toArray⟩) (by omega)
  have a4 := a3.other (R' := W.heap.size + 1) (o := 1) (by omega) (.string ⟨v.toArray⟩)
  have b4 := b3.set1 (.string ⟨v.toArray⟩)
  have g4 := grown_set (o := 1) (u := .string ⟨v.toArray⟩) g3 (by omega : W.heap.size ≤ W.heap.size + 1)
  clear h3 a3 b3 g3 bc bc1 bf
  generalize W3.setCell ⟨W.heap.size + 1, 1, none⟩ (.string ⟨v.toArray⟩) = W4 at *
  refine (hasNoKey_any _ _ _).mono ?_
  rintro e W5 ⟨rfl, hb5⟩
  have h5 := h4.keep (hb5.mono h4.lt)
  have a5 := a4.below hb5
  have b5 := b4.below hb5
  have g5 := grown_below g4 hb5
  have bc := b5.c0
  have bc1 := b5.c1
  clear h4 a4 b4 g4 hb5
  go_wp2_with fail
  refine (hasLong_any _ _ _).mono ?_
  rintro e W6 ⟨rfl, hb6⟩
  have g6 := grown_below g5 hb6
  clear bc bc1 h5 a5 b5 g5 hb6
  go_wp2_with fail
  exact ⟨rfl, rfl, g6⟩
theorem record_ok {W : World} {B Br : Nat} {l s : List UInt8} {x : RecB} (h : Rdr W B Br l) (ho : one l = some (x, s)) :
    Calls Try.prog 46 #[.pointer (some ⟨Br, 0, none⟩)] W fun e W' => e = .returned (.agg #[.string x.1, .string x.2]) ∧ Rdr W' B Br s ∧ W.grownBy W' (some Br) := by
  unfold one at ho
  split at ho
  · cases ho
  · rename_i k r hf1
    split at ho
    · cases ho
    · rename_i v s' hf2
      split at ho
      · rename_i hc
        cases ho
        exact record_some h hf1 hf2 hc.1 hc.2
      · cases ho
theorem record_no {W : World} {B Br : Nat} {l : List UInt8} (h : Rdr W B Br l) (ho : one l = none) :
    Calls Try.prog 46 #[.pointer (some ⟨Br, 0, none⟩)] W fun e W' => e = .panicked pch ∧ W.grownBy W' (some Br) := by
  unfold one at ho
  split at ho
  · rename_i hf1; exact record_n1 h hf1
  · rename_i k r hf1
    split at ho
    · rename_i hf2; exact record_n2 h hf1 hf2
    · rename_i v s' hf2
      split at ho
      · cases ho
      · rename_i hc
        cases hk : isKeyL k
        · exact record_n3 h hf1 hf2 hk
        · exact record_n4 h hf1 hf2 hk (by
            rcases Nat.lt_or_ge 100 v.length with h1 | h1
            · exact h1
            · exact absurd ⟨hk, h1⟩ hc)
end Go.Proofs.Ytghlcllmfenoiaa

import Derived.Test.YtbdnhccjlggpkaaU3
namespace Go.Proofs.Ytbdnhccjlggpkaa
open Go.RowKit
theorem Rdr.keep {W W' : World} {B Br : Nat} {l : List UInt8} {s x : Bool} (h : Rdr W B Br l s x) (hg : W.grownBy W' none) : Rdr W' B Br l s x := by
  obtain ⟨sv, hb, hs⟩ := h
  have e : ∀ i o, W.heap[i]? = some o → W'.heap[i]? = some o := fun i o ho => (hg.block i (Array.getElem?_eq_some_iff.1 ho).1 (fun e => by cases e)).trans ho
  exact ⟨sv, e _ _ hb, hs.keep fun b cur _ hk => e _ _ hk⟩
theorem whole_cons (c : UInt8) (t : List UInt8) : (whole (c :: t)).isSome = true ↔ ∃ h : c.toNat < t.length, 1 + c.toNat + (t[c.toNat]).toNat < (c :: t).length := by
  unfold whole
  rw [fld_cons]
  by_cases h1 : c.toNat ≤ t.length
  · rw [if_pos h1]
    simp only
    by_cases h2 : c.toNat < t.length
    · rw [List.drop_eq_getElem_cons h2, fld_cons]
      simp only [List.length_drop, List.length_cons]
      by_cases h3 : (t[c.toNat]).toNat ≤ t.length - (c.toNat + 1)
      · rw [if_pos h3]
        simp only [Option.isSome_some, true_iff]
        exact ⟨h2, by omega⟩
      · rw [if_neg h3]
        simp
        omega
    · have : t.drop c.toNat = [] := List.drop_eq_nil_of_le (by omega)
      rw [this]
      simp [fld]
      omega
  · rw [if_neg h1]
    simp
    omega
theorem hasWhole_any {W : World} {B Br : Nat} {l : List UInt8} {s x : Bool} (h : Rdr W B Br l s x) :
    Calls Try.prog 53 #[.pointer (some ⟨Br, 0, none⟩)] W fun e W' => e = .returned (.bool (!x && (whole l).isSome)) ∧ W.grownBy W' none := by
  obtain ⟨sv, hb, hs⟩ := h
  cases x with
  | true => exact whole_wrong Br W hb.c2
  | false =>
    cases l with
    | nil =>
      obtain ⟨ao, cap, rfl, _⟩ := hs.len
      exact whole_0 Br cap ao W hb.c0 hb.c2
    | cons c t =>
      rcases hs with ⟨_, h0⟩ | ⟨b, off, cap, cur, rfl, h2, h3, h4, h5, h6⟩
      · cases h0
      have hcell : ∀ j (hj : j < (c :: t).length), W.cell? ⟨b, off + j, none⟩ = some (.int .u8 (((c :: t)[j]).toNat : Int)) := fun j hj => (cell_of_block h4 _).trans (h6 j _ (bytesV_getElem _ j hj))
      have hc0 := hcell 0 (by simp)
      rw [Nat.add_zero] at hc0
      by_cases hle : (c :: t).length ≤ 1 + c.toNat
      · have e : (whole (c :: t)).isSome = false := by
          rw [Bool.eq_false_iff]
          intro hw
          obtain ⟨h7, _⟩ := (whole_cons c t).1 hw
          rw [List.length_cons] at hle
          omega
        rw [e]
        exact whole_1 Br b off (c :: t).length cap c.toNat W hb.c0 hb.c2 hc0 (by simp) c.toNat_lt hle
      · rw [List.length_cons] at hle
        have h7 : c.toNat < t.length := by omega
        have hc1 := hcell (1 + c.toNat) (by rw [List.length_cons]; omega)
        have e1 : (c :: t)[1 + c.toNat]'(by rw [List.length_cons]; omega) = t[c.toNat] := by
          rw [List.getElem_cons]
          split
          · omega
          · congr 1; omega
        rw [e1] at hc1
        refine whole_2 Br b off (c :: t).length cap c.toNat (t[c.toNat]).toNat W hb.c0 hb.c2 hc0 c.toNat_lt (by rw [List.length_cons]; omega) hc1 (t[c.toNat]).toNat_lt _ ?_
        rw [Bool.eq_iff_iff]
        simp only [decide_eq_true_eq, Bool.not_false, Bool.true_and]
        rw [whole_cons]
        exact ⟨fun h => ⟨h7, h⟩, fun ⟨_, h⟩ => h⟩
/-- An append whose run is known. -/
theorem wpList_append_run {P : Program} (w : World) {ops : Array Oper} {rest : List Oper} {o : Oper} {a : Act} {Q : Exit → Act → World → Prop} (hgd : o.guard = none) (s x : Operand) (t u ty : TypeId)
    (ho : o.op = .call { callee := .builtin .append, args := #[s, x], argTypes := #[t, u] }) (hty : o.type = ty) {v xv v' : Value} {w' : World} (hs : a.eval s = v) (hx : a.eval x = xv)
    (hrun : (Builtin.append_ #[t, u] ty #[v, xv]).run P w = .ok v' w') (hK : wpList P ops Q rest (a.put o.dst v') w') : wpList P ops Q (o :: rest) a w := by
  refine wpList_plain hgd fun K hK' => ?_
  subst hty
  unfold Oper.wp execOp
  simp only [ho, resolve, invoke, builtin, Sem.run_bind, Sem.run_pure, Result.andThen_ok, List.map_toArray, List.map_cons, List.map_nil, hs, hx, hrun]
  exact hK' _ _ hK
set_option maxRecDepth 100000 in
set_option maxHeartbeats 1600000 in
theorem feed_wrong (Br n : Nat) (p : ByteArray) (W : World) (sv : Value) (s x b : Bool) (hb : Box3 W Br sv (.bool s) (.bool x)) (hx : (x || s) = true) (hn : p.size = n) (hbb : decide (n < 60) = b) :
    Calls Try.prog 52 #[.pointer (some ⟨Br, 0, none⟩), .string p] W fun e W' => (∃ v, e = .returned v) ∧ W' = (W.setCell ⟨Br, 2, none⟩ (.bool true)).setCell ⟨Br, 1, none⟩ (.bool b) := by
  have c1 := hb.c1
  have c2 := hb.c2
  have f1 := hb.f 1
  have f2 := hb.f 2
  have d2 := ((hb.set2 (.bool true)).set1 (.bool b)).c2
  have hbi : decide ((n : Int) < 60) = b := by rw [← hbb]; congr 1; exact propext ⟨fun h => by omega, fun h => by omega⟩
  cases x with
  | true =>
    go_enter Try.func52, Try.ntmps52
    go_wp2_with fail
    go_end0
    exact ⟨⟨_, rfl⟩, rfl⟩
  | false =>
    obtain rfl : s = true := hx
    go_enter Try.func52, Try.ntmps52
    go_wp2_with fail
    go_end0
    exact ⟨⟨_, rfl⟩, rfl⟩
set_option maxRecDepth 100000 in
set_option maxHeartbeats 1600000 in
theorem feed_right (Br n : Nat) (p : List UInt8) (W : World) (sv : Value) (b : Bool) (hb : Box3 W Br sv (.bool false) (.bool false)) (hn : p.length = n) (hbb : decide (n < 60) = b)
    {a : Option Addr} {m c : Nat} {W3 : World} (hrun : (Builtin.append_ #[55, 9] 55 #[sv, .string ⟨p.toArray⟩]).run Try.prog ((W.setCell ⟨Br, 2, none⟩ (.bool false)).setCell ⟨Br, 1, none⟩ (.bool b)) = .ok (.slice a m c) W3)
    (hb3 : Box3 W3 Br sv (.bool b) (.bool false)) :
    Calls Try.prog 52 #[.pointer (some ⟨Br, 0, none⟩), .string ⟨p.toArray⟩] W fun e W' => (∃ v, e = .returned v) ∧ W' = W3.setCell ⟨Br, 0, none⟩ (.slice a m c) := by
  have c1 := hb.c1
  have c2 := hb.c2
  have f1 := hb.f 1
  have f2 := hb.f 2
  have b2 := (hb.set2 (.bool false)).set1 (.bool b)
  have d2 := b2.c2
  have d0 := b2.c0
  have e0 := hb3.c0
  have g0 := hb3.f 0
  have hps := mk_size p
  have hbi : decide ((n : Int) < 60) = b := by rw [← hbb]; congr 1; exact propext ⟨fun h => by omega, fun h => by omega⟩
  go_enter Try.func52, Try.ntmps52
  go_wp2_with (at_builtin; refine wpList_append_run _ rfl (.tmp 32) (.tmp 33) 55 9 55 rfl rfl rfl rfl hrun ?_)
  go_end0
  exact ⟨⟨_, rfl⟩, rfl⟩
theorem feed_any {W : World} {B Br : Nat} {l : List UInt8} {s x : Bool} (h : Rdr W B Br l s x) (p : List UInt8) (hmax : l.length + p.length ≤ 268435456) (hB : B ≤ W.heap.size) :
    Calls Try.prog 52 #[.pointer (some ⟨Br, 0, none⟩), .string ⟨p.toArray⟩] W fun e W' => (∃ v, e = .returned v) ∧ Rdr W' B Br (if (x || s) = true then l else l ++ p) (decide (p.length < 60)) (x || s) ∧ Fr B Br W W' := by
  obtain ⟨sv, hb, hs⟩ := h
  have hset : ∀ (u v : Value), W.grownBy ((W.setCell ⟨Br, 2, none⟩ u).setCell ⟨Br, 1, none⟩ v) (some Br) := fun u v =>
    ⟨rfl, rfl, rfl, by simp, fun i _ hne => (Below.heap_setCell _ ⟨Br, 1, none⟩ v i (fun e => hne (by rw [e]))).trans (Below.heap_setCell W ⟨Br, 2, none⟩ u i (fun e => hne (by rw [e])))⟩
  cases hxs : (x || s) with
  | true =>
    refine (feed_wrong Br p.length ⟨p.toArray⟩ W sv s x _ hb hxs (mk_size p) rfl).mono ?_
    rintro e W' ⟨hv, rfl⟩
    refine ⟨hv, ⟨sv, (hb.set2 _).set1 _, ?_⟩, Fr.of_grown (hset _ _)⟩
    rw [if_pos rfl]
    exact (hs.set hb).set (hb.set2 _)
  | false =>
    obtain ⟨rfl, rfl⟩ : x = false ∧ s = false := by cases x <;> cases s <;> simp_all
    have hs2 : RS ((W.setCell ⟨Br, 2, none⟩ (.bool false)).setCell ⟨Br, 1, none⟩ (.bool (decide (p.length < 60)))) B sv l := (hs.set hb).set (hb.set2 _)
    have b2 := (hb.set2 (.bool false)).set1 (.bool (decide (p.length < 60)))
    obtain ⟨a, c, W3, hrun, hrs, hfr⟩ := rs_append hs2 p hmax (by simpa using hB)
    have b3 : Box3 W3 Br sv (.bool (decide (p.length < 60))) (.bool false) := ((hfr (Br + 1)).block Br b2.lt (by omega) (fun _ cur e => by rw [show _ = _ from b2] at e; simp at e)).trans b2
    refine (feed_right Br p.length p W sv _ hb rfl rfl hrun b3).mono ?_
    rintro e W' ⟨hv, rfl⟩
    refine ⟨hv, ⟨_, b3.set0 _, ?_⟩, ((Fr.of_grown (hset _ _)).trans (hfr Br)).trans (Fr.of_grown (grownBy_setCell' _ _ _))⟩
    rw [if_neg (by decide)]
    exact hrs.set b3
theorem keyV_shape (l : List UInt8) : keyV l = .nilIface ∨ ∃ t v, keyV l = .iface t v := by
  unfold keyV
  split
  · exact Or.inr ⟨_, _, rfl⟩
  · split
    · exact Or.inr ⟨_, _, rfl⟩
    · split
      · exact Or.inr ⟨_, _, rfl⟩
      · exact Or.inl rfl
/-- A box of an entry. -/
def BoxE (W : World) (R : Nat) (a b c : Value) : Prop := W.heap[R]? = some (.cells #[a, b, c] 90 (0, 0))
theorem BoxE.lt {W : World} {R : Nat} {a b c : Value} (h : BoxE W R a b c) : R < W.heap.size := (Array.getElem?_eq_some_iff.1 h).1
theorem BoxE.c0 {W : World} {R : Nat} {a b c : Value} (h : BoxE W R a b c) : W.cell? ⟨R, 0, none⟩ = some a := by simp [World.cell?, show W.heap[R]? = _ from h]
theorem BoxE.c1 {W : World} {R : Nat} {a b c : Value} (h : BoxE W R a b c) : W.cell? ⟨R, 1, none⟩ = some b := by simp [World.cell?, show W.heap[R]? = _ from h]
theorem BoxE.c2 {W : World} {R : Nat} {a b c : Value} (h : BoxE W R a b c) : W.cell? ⟨R, 2, none⟩ = some c := by simp [World.cell?, show W.heap[R]? = _ from h]
theorem BoxE.f {W : World} {R : Nat} {a b c : Value} (h : BoxE W R a b c) (o : Nat) : W.frozen? ⟨R, o, none⟩ = false := by simp [World.frozen?, show W.heap[R]? = _ from h]
theorem BoxE.kept {W W' : World} {R Br : Nat} {a b c : Value} (h : BoxE W R a b c) (hg : W.grownBy W' (some Br)) (hne : R ≠ Br) : BoxE W' R a b c := (hg.block R h.lt (fun e => hne (by cases e; rfl))).trans h
theorem BoxE.below {W W' : World} {R : Nat} {a b c : Value} (h : BoxE W R a b c) (hb : Below W.heap.size W W') : BoxE W' R a b c := (hb.block R h.lt).trans h
theorem BoxE.alloc {W : World} {R : Nat} {a b c : Value} (h : BoxE W R a b c) (o : Obj) : BoxE (W.alloc o) R a b c := (Below.heap_alloc W o R h.lt).trans h
theorem BoxE.other {W : World} {R R' o : Nat} {a b c : Value} (h : BoxE W R a b c) (hne : R ≠ R') (u : Value) : BoxE (W.setCell ⟨R', o, none⟩ u) R a b c := (Below.heap_setCell W ⟨R', o, none⟩ u R hne).trans h
theorem BoxE.set0 {W : World} {R : Nat} {a b c : Value} (h : BoxE W R a b c) (u : Value) : BoxE (W.setCell ⟨R, 0, none⟩ u) R u b c := by
  obtain ⟨hlt, hk⟩ := Array.getElem?_eq_some_iff.1 h
  show (W.heap.modify R _)[R]? = _
  rw [Array.getElem?_eq_getElem (by rw [Array.size_modify]; exact hlt), Array.getElem_modify_self, hk]
  rfl
theorem BoxE.set1 {W : World} {R : Nat} {a b c : Value} (h : BoxE W R a b c) (u : Value) : BoxE (W.setCell ⟨R, 1, none⟩ u) R a u c := by
  obtain ⟨hlt, hk⟩ := Array.getElem?_eq_some_iff.1 h
  show (W.heap.modify R _)[R]? = _
  rw [Array.getElem?_eq_getElem (by rw [Array.size_modify]; exact hlt), Array.getElem_modify_self, hk]
  rfl
theorem BoxE.set2 {W : World} {R : Nat} {a b c : Value} (h : BoxE W R a b c) (u : Value) : BoxE (W.setCell ⟨R, 2, none⟩ u) R a b u := by
  obtain ⟨hlt, hk⟩ := Array.getElem?_eq_some_iff.1 h
  show (W.heap.modify R _)[R]? = _
  rw [Array.getElem?_eq_getElem (by rw [Array.size_modify]; exact hlt), Array.getElem_modify_self, hk]
  rfl
end Go.Proofs.Ytbdnhccjlggpkaa

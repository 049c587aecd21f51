import Derived.Test.YtbdnhccjlggpkaaU4
namespace Go.Proofs.Ytbdnhccjlggpkaa
open Go.RowKit
theorem Rdr.lt {W : World} {B Br : Nat} {l : List UInt8} {s x : Bool} (h : Rdr W B Br l s x) : Br < W.heap.size := by
  obtain ⟨_, hb, _⟩ := h; exact hb.lt
theorem Rdr.setE {W : World} {B Br R o : Nat} {l : List UInt8} {s x : Bool} {a b c u : Value} (h : Rdr W B Br l s x) (hE : BoxE W R a b c) : Rdr (W.setCell ⟨R, o, none⟩ u) B Br l s x := by
  obtain ⟨sv, hb, hs⟩ := h
  have hne : Br ≠ R := fun e => by
    subst e
    have h1 : W.heap[Br]? = _ := hb
    have h2 : W.heap[Br]? = _ := hE
    rw [h1] at h2
    simp at h2
  refine ⟨sv, (Below.heap_setCell W ⟨R, o, none⟩ u Br hne).trans hb, hs.keep fun k cur _ hk => (Below.heap_setCell W ⟨R, o, none⟩ u k (fun e => ?_)).trans hk⟩
  have e2 : k = R := e
  subst e2
  rw [show W.heap[k]? = _ from hE] at hk
  simp at hk
theorem Rdr.keepB {W W' : World} {B Br : Nat} {l : List UInt8} {s x : Bool} (h : Rdr W B Br l s x) (hb : Below W.heap.size W W') : Rdr W' B Br l s x := by
  obtain ⟨sv, hx, hs⟩ := h
  exact ⟨sv, (hb.block Br hx.lt).trans hx, hs.keep fun b cur _ hk => (hb.block b (Array.getElem?_eq_some_iff.1 hk).1).trans hk⟩
theorem grown_set {W W' : World} {Br R o : Nat} {u : Value} (hg : W.grownBy W' (some Br)) (hR : W.heap.size ≤ R) : W.grownBy (W'.setCell ⟨R, o, none⟩ u) (some Br) :=
  ⟨hg.os, hg.tape, hg.output, by have := hg.size; simpa using this, fun k hk hne => (Below.heap_setCell W' ⟨R, o, none⟩ u k (by show k ≠ R; omega)).trans (hg.block k hk hne)⟩
theorem grown_below {W W' W'' : World} {Br : Nat} (hg : W.grownBy W' (some Br)) (hb : Below W'.heap.size W' W'') : W.grownBy W'' (some Br) :=
  ⟨hb.os.trans hg.os, hb.tape.trans hg.tape, hb.output.trans hg.output, Nat.le_trans hg.size hb.size, fun k hk hne => (hb.block k (Nat.lt_of_lt_of_le hk hg.size)).trans (hg.block k hk hne)⟩
theorem below_drewN (W : World) (n : Nat) : Below W.heap.size W (W.drewN n) := (Below.refl _ W).grown (grownBy_drewn W n) (Nat.le_refl _) (fun k e => by cases e)
theorem grownBy_setCell2 (W : World) (b o : Nat) (u : Value) : W.grownBy (W.setCell ⟨b, o, none⟩ u) (some b) :=
  ⟨rfl, rfl, rfl, by simp, fun k _ hne => Below.heap_setCell W ⟨b, o, none⟩ u k (fun e => hne (by rw [e]))⟩
/-- The two boxes that read lays. -/
theorem read_start {W : World} {B Br : Nat} {l : List UInt8} {s x : Bool} (h : Rdr W B Br l s x) {W0 : World}
    (e : (W.alloc (.cells #[.string ⟨#[]⟩, .string ⟨#[]⟩, .nilIface] 90)).alloc (.cells #[.string ⟨#[]⟩, .string ⟨#[]⟩, .nilIface] 90) = W0) :
    Rdr W0 B Br l s x ∧ BoxE W0 W.heap.size (.string ⟨#[]⟩) (.string ⟨#[]⟩) .nilIface ∧ BoxE W0 (W.heap.size + 1) (.string ⟨#[]⟩) (.string ⟨#[]⟩) .nilIface ∧ W.grownBy W0 (some Br) := by
  subst e
  refine ⟨(h.keep (World.grownBy_alloc _ _ _)).keep (World.grownBy_alloc _ _ _), ?_, ?_, ?_⟩
  · exact BoxE.alloc (heap_alloc_new W _) _
  · have := heap_alloc_new (W.alloc (.cells #[.string ⟨#[]⟩, .string ⟨#[]⟩, .nilIface] 90)) (.cells #[.string ⟨#[]⟩, .string ⟨#[]⟩, .nilIface] 90)
    rw [World.size_alloc] at this
    exact this
  · exact grownBy_trans (World.grownBy_alloc _ _ _) (World.grownBy_alloc _ _ _)
/-- The reader's mark is set. -/
theorem Rdr.mark {W : World} {B Br : Nat} {l : List UInt8} {s x : Bool} (h : Rdr W B Br l s x) (y : Bool) : Rdr (W.setCell ⟨Br, 2, none⟩ (.bool y)) B Br l s y := by
  obtain ⟨sv, hb, hs⟩ := h
  exact ⟨sv, hb.set2 _, hs.set hb⟩
set_option maxRecDepth 100000 in
set_option maxHeartbeats 3200000 in
theorem read_nil {W : World} {B Br : Nat} {l k r v s : List UInt8} {sh x : Bool}  (rt : Bool) (h : Rdr W B Br l sh x) (hf1 : fld l = some (k, r)) (hf2 : fld r = some (v, s)) (hmax : l.length ≤ 268435456) (hpl : keyV k = .nilIface) (ik : Bool) (hik : isKeyL k = ik) (hrt : (ik && decide (v.length ≤ 100)) = rt) :
    Calls Try.prog 54 #[.pointer (some ⟨Br, 0, none⟩)] W fun e W' => e = .returned (.tuple #[.agg #[.string ⟨k.toArray⟩, .string ⟨v.toArray⟩, .nilIface], .bool rt]) ∧ Rdr W' B Br s sh (!rt) ∧ W.grownBy W' (some Br) := by
  have hlt := h.lt
  have hl1 := fld_len hf1
  have HF1 : Hid (fld l = some (k, r)) := hf1
  have HF2 : Hid (fld r = some (v, s)) := hf2
  have hm2 : r.length ≤ 268435456 := by omega
  have hl2 := fld_len hf2
  have hvm : v.length ≤ 268435456 := by omega
  clear hf1 hf2 hl1 hl2
  have key : ∀ W4, Calls Try.prog 17 #[.string ⟨k.toArray⟩] W4 fun e w' => e = .returned (.tuple #[.nilIface, .bool ik]) ∧ Below W4.heap.size W4 w' := fun W4 => (readKey_any ⟨k.toArray⟩ W4).mono (by
    rintro e w' ⟨rfl, n, rfl⟩
    refine ⟨?_, below_drewN _ _⟩
    show Ending.returned (.tuple #[keyV k, .bool (isKeyL k)]) = _
    rw [hpl, hik])
  have KEY : Hid (∀ W4, Calls Try.prog 17 #[.string ⟨k.toArray⟩] W4 fun e w' => e = .returned (.tuple #[.nilIface, .bool ik]) ∧ Below W4.heap.size W4 w') := key
  clear key hpl hik
  go_enter Try.func54, Try.ntmps54
  go_wp2_with fail
  generalize hW0 : (W.alloc (Obj.cells #[Value.string ⟨#[]⟩, Value.string ⟨#[]⟩, Value.nilIface] 90)).alloc (Obj.cells #[Value.string ⟨#[]⟩, Value.string ⟨#[]⟩, Value.nilIface] 90) = W0
  obtain ⟨h0, a0, b0, g0⟩ := read_start h hW0
  clear hW0 h
  refine (field_some h0 HF1.out hmax).mono ?_
  rintro e W1 ⟨rfl, h1, hg1⟩
  have a1 := a0.kept hg1 (by omega)
  have b1 := b0.kept hg1 (by omega)
  have g1 := grownBy_trans g0 hg1
  have bc := b1.c0
  have bf := b1.f 0
  clear h0 a0 b0 g0 hg1
  go_wp2_with fail
  have h2 := h1.setE (o := 0) (u := .string ⟨k.toArray⟩) b1
  have a2 := a1.other (R' := W.heap.size + 1) (o := 0) (by omega) (.string ⟨k.toArray⟩)
  have b2 := b1.set0 (.string ⟨k.toArray⟩)
  have g2 := grown_set (o := 0) (u := .string ⟨k.toArray⟩) g1 (by omega : W.heap.size ≤ W.heap.size + 1)
  clear h1 a1 b1 g1 bc bf
  refine (field_some h2 HF2.out hm2).mono ?_
  rintro e W3 ⟨rfl, h3, hg3⟩
  have a3 := a2.kept hg3 (by omega)
  have b3 := b2.kept hg3 (by omega)
  have g3 := grownBy_trans g2 hg3
  have bc := b3.c0
  have bc1 := b3.c1
  have bf := b3.f 1
  clear h2 a2 b2 g2 hg3
  go_wp2_with fail
  have h4 := h3.setE (o := 1) (u := .string ⟨v.toArray⟩) b3
  have a4 := a3.other (R' := W.heap.size + 1) (o := 1) (by omega) (.string ⟨v.toArray⟩)
  have b4 := b3.set1 (.string ⟨v.toArray⟩)
  have g4 := grown_set (o := 1) (u := .string ⟨v.toArray⟩) g3 (by omega : W.heap.size ≤ W.heap.size + 1)
  clear h3 a3 b3 g3 bc bc1 bf
  generalize W3.setCell ⟨W.heap.size + 1, 1, none⟩ (.string ⟨v.toArray⟩) = W4 at *
  refine (KEY.out W4).mono ?_
  rintro e W5 ⟨rfl, hb5⟩
  have h5 := h4.keepB hb5
  have a5 := a4.below hb5
  have b5 := b4.below hb5
  have g5 := grown_below g4 hb5
  have bc := b5.c0
  have bc1 := b5.c1
  have bc2 := b5.c2
  have bf := b5.f 2
  clear h4 a4 b4 g4 hb5 KEY
  have h6 := h5.setE (o := 2) (u := .nilIface) b5
  have a6 := a5.other (R' := W.heap.size + 1) (o := 2) (by omega) .nilIface
  have b6 := b5.set2 .nilIface
  have g6 := grown_set (o := 2) (u := .nilIface) g5 (by omega : W.heap.size ≤ W.heap.size + 1)
  obtain ⟨sv6, hx6, _⟩ := id h6
  have xc := hx6.c2
  have xf := hx6.f 2
  clear hx6
  cases ik with
  | true =>
      go_wp2_with fail
      refine (hasLong_any _ _ _).mono ?_
      rintro e W7 ⟨rfl, hb7⟩
      have h7 := h6.keepB hb7
      have a7 := a6.below hb7
      have b7 := b6.below hb7
      have g7 := grown_below g6 hb7
      clear hb7
      obtain ⟨sv7, hx7, _⟩ := id h7
      have xc7 := hx7.c2
      have xf7 := hx7.f 2
      clear hx7
      have elo : decide ((ByteArray.mk v.toArray).size > 100) = !rt := by rw [mk_size, ← hrt, Bool.true_and]; by_cases hq : v.length ≤ 100 <;> simp [hq] <;> omega
      rw [elo]
      clear elo
      go_wp2_with fail
      have h8 := h7.mark (!rt)
      have a8 := a7.other (R' := Br) (o := 2) (by omega) (.bool (!rt))
      have b8 := b7.other (R' := Br) (o := 2) (by omega) (.bool (!rt))
      have g8 : W.grownBy _ (some Br) := grownBy_trans g7 (grownBy_setCell2 _ Br 2 (.bool (!rt)))
      generalize W7.setCell ⟨Br, 2, none⟩ (Value.bool (!rt)) = W8 at *
      clear xc7 xf7 h7 a7 b7 g7
      clear xc xf bc bc1 bc2 bf h5 a5 b5 g5 h6 a6 b6 g6
      obtain ⟨sv8, hx8, _⟩ := id h8
      have yc := hx8.c2
      have e0 := b8.c0
      have e1 := b8.c1
      have e2 := b8.c2
      have q0 := a8.c0
      have q1 := a8.c1
      have q2 := a8.c2
      have z0 := a8.f 0
      have z1 := a8.f 1
      have z2 := a8.f 2
      clear hx8
      go_region
      all_goals
        go_wp2_with fail
        have a9 := ((a8.set0 (.string ⟨k.toArray⟩)).set1 (.string ⟨v.toArray⟩)).set2 .nilIface
        have u0 := a9.c0
        have u1 := a9.c1
        have u2 := a9.c2
        refine bodyPost_ret (v := .tuple #[.agg #[.string ⟨k.toArray⟩, .string ⟨v.toArray⟩, .nilIface], .bool rt]) (by simp [results, Try.results54, go_sem, u0, u1, u2]) rfl ⟨by first | rfl | (rw [← hrt]; rfl) | (rw [← hrt]; simp), ?_, ?_⟩
        · have hh : Rdr _ B Br s sh (!rt) := (((h8.setE (o := 0) (u := .string ⟨k.toArray⟩) a8).setE (o := 1) (u := .string ⟨v.toArray⟩) (a8.set0 _)).setE (o := 2) (u := .nilIface) ((a8.set0 _).set1 _)).keep (grownBy_drew1 _)
          first | exact hh | (rw [← hrt]; exact hh) | (rw [← hrt]; simpa using hh)
        · exact grownBy_trans (grown_set (grown_set (grown_set g8 (Nat.le_refl _)) (Nat.le_refl _)) (Nat.le_refl _)) ⟨rfl, rfl, rfl, Nat.le_refl _, fun _ _ _ => rfl⟩
  | false =>
      have hr0 : rt = false := by rw [← hrt]; rfl
      subst hr0
      go_wp2_with fail
      have h8 := h6.mark true
      have a8 := a6.other (R' := Br) (o := 2) (by omega) (.bool true)
      have b8 := b6.other (R' := Br) (o := 2) (by omega) (.bool true)
      have g8 : W.grownBy _ (some Br) := grownBy_trans g6 (grownBy_setCell2 _ Br 2 (.bool true))
      generalize (W5.setCell ⟨W.heap.size + 1, 2, none⟩ Value.nilIface).setCell ⟨Br, 2, none⟩ (Value.bool true) = W8 at *
      clear xc xf bc bc1 bc2 bf h5 a5 b5 g5 h6 a6 b6 g6
      obtain ⟨sv8, hx8, _⟩ := id h8
      have yc := hx8.c2
      have e0 := b8.c0
      have e1 := b8.c1
      have e2 := b8.c2
      have q0 := a8.c0
      have q1 := a8.c1
      have q2 := a8.c2
      have z0 := a8.f 0
      have z1 := a8.f 1
      have z2 := a8.f 2
      clear hx8
      go_region
      all_goals
        go_wp2_with fail
        have a9 := ((a8.set0 (.string ⟨k.toArray⟩)).set1 (.string ⟨v.toArray⟩)).set2 .nilIface
        have u0 := a9.c0
        have u1 := a9.c1
        have u2 := a9.c2
        refine bodyPost_ret (v := .tuple #[.agg #[.string ⟨k.toArray⟩, .string ⟨v.toArray⟩, .nilIface], .bool false]) (by simp [results, Try.results54, go_sem, u0, u1, u2]) rfl ⟨by first | rfl | (rw [← hrt]; rfl) | (rw [← hrt]; simp), ?_, ?_⟩
        · have hh : Rdr _ B Br s sh (!false) := (((h8.setE (o := 0) (u := .string ⟨k.toArray⟩) a8).setE (o := 1) (u := .string ⟨v.toArray⟩) (a8.set0 _)).setE (o := 2) (u := .nilIface) ((a8.set0 _).set1 _)).keep (grownBy_drew1 _)
          first | exact hh | (rw [← hrt]; exact hh) | (rw [← hrt]; simpa using hh)
        · exact grownBy_trans (grown_set (grown_set (grown_set g8 (Nat.le_refl _)) (Nat.le_refl _)) (Nat.le_refl _)) ⟨rfl, rfl, rfl, Nat.le_refl _, fun _ _ _ => rfl⟩
set_option maxRecDepth 100000 in
set_option maxHeartbeats 3200000 in
theorem read_key {W : World} {B Br : Nat} {l k r v s : List UInt8} {sh x : Bool} {pt : TypeId} {pv : Value} (rt : Bool) (h : Rdr W B Br l sh x) (hf1 : fld l = some (k, r)) (hf2 : fld r = some (v, s)) (hmax : l.length ≤ 268435456) (hpl : keyV k = (.iface pt pv)) (ik : Bool) (hik : isKeyL k = ik) (hrt : (ik && decide (v.length ≤ 100)) = rt) :
    Calls Try.prog 54 #[.pointer (some ⟨Br, 0, none⟩)] W fun e W' => e = .returned (.tuple #[.agg #[.string ⟨k.toArray⟩, .string ⟨v.toArray⟩, (.iface pt pv)], .bool rt]) ∧ Rdr W' B Br s sh (!rt) ∧ W.grownBy W' (some Br) := by
  have hlt := h.lt
  have hl1 := fld_len hf1
  have HF1 : Hid (fld l = some (k, r)) := hf1
  have HF2 : Hid (fld r = some (v, s)) := hf2
  have hm2 : r.length ≤ 268435456 := by omega
  have hl2 := fld_len hf2
  have hvm : v.length ≤ 268435456 := by omega
  clear hf1 hf2 hl1 hl2
  have key : ∀ W4, Calls Try.prog 17 #[.string ⟨k.toArray⟩] W4 fun e w' => e = .returned (.tuple #[(.iface pt pv), .bool ik]) ∧ Below W4.heap.size W4 w' := fun W4 => (readKey_any ⟨k.toArray⟩ W4).mono (by
    rintro e w' ⟨rfl, n, rfl⟩
    refine ⟨?_, below_drewN _ _⟩
    show Ending.returned (.tuple #[keyV k, .bool (isKeyL k)]) = _
    rw [hpl, hik])
  have KEY : Hid (∀ W4, Calls Try.prog 17 #[.string ⟨k.toArray⟩] W4 fun e w' => e = .returned (.tuple #[(.iface pt pv), .bool ik]) ∧ Below W4.heap.size W4 w') := key
  clear key hpl hik
  go_enter Try.func54, Try.ntmps54
  go_wp2_with fail
  generalize hW0 : (W.alloc (Obj.cells #[Value.string ⟨#[]⟩, Value.string ⟨#[]⟩, Value.nilIface] 90)).alloc (Obj.cells #[Value.string ⟨#[]⟩, Value.string ⟨#[]⟩, Value.nilIface] 90) = W0
  obtain ⟨h0, a0, b0, g0⟩ := read_start h hW0
  clear hW0 h
  refine (field_some h0 HF1.out hmax).mono ?_
  rintro e W1 ⟨rfl, h1, hg1⟩
  have a1 := a0.kept hg1 (by omega)
  have b1 := b0.kept hg1 (by omega)
  have g1 := grownBy_trans g0 hg1
  have bc := b1.c0
  have bf := b1.f 0
  clear h0 a0 b0 g0 hg1
  go_wp2_with fail
  have h2 := h1.setE (o := 0) (u := .string ⟨k.toArray⟩) b1
  have a2 := a1.other (R' := W.heap.size + 1) (o := 0) (by omega) (.string ⟨k.toArray⟩)
  have b2 := b1.set0 (.string ⟨k.toArray⟩)
  have g2 := grown_set (o := 0) (u := .string ⟨k.toArray⟩) g1 (by omega : W.heap.size ≤ W.heap.size + 1)
  clear h1 a1 b1 g1 bc bf
  refine (field_some h2 HF2.out hm2).mono ?_
  rintro e W3 ⟨rfl, h3, hg3⟩
  have a3 := a2.kept hg3 (by omega)
  have b3 := b2.kept hg3 (by omega)
  have g3 := grownBy_trans g2 hg3
  have bc := b3.c0
  have bc1 := b3.c1
  have bf := b3.f 1
  clear h2 a2 b2 g2 hg3
  go_wp2_with fail
  have h4 := h3.setE (o := 1) (u := .string ⟨v.toArray⟩) b3
  have a4 := a3.other (R' := W.heap.size + 1) (o := 1) (by omega) (.string ⟨v.toArray⟩)
  have b4 := b3.set1 (.string ⟨v.toArray⟩)
  have g4 := grown_set (o := 1) (u := .string ⟨v.toArray⟩) g3 (by omega : W.heap.size ≤ W.heap.size + 1)
  clear h3 a3 b3 g3 bc bc1 bf
  generalize W3.setCell ⟨W.heap.size + 1, 1, none⟩ (.string ⟨v.toArray⟩) = W4 at *
  refine (KEY.out W4).mono ?_
  rintro e W5 ⟨rfl, hb5⟩
  have h5 := h4.keepB hb5
  have a5 := a4.below hb5
  have b5 := b4.below hb5
  have g5 := grown_below g4 hb5
  have bc := b5.c0
  have bc1 := b5.c1
  have bc2 := b5.c2
  have bf := b5.f 2
  clear h4 a4 b4 g4 hb5 KEY
  have h6 := h5.setE (o := 2) (u := (.iface pt pv)) b5
  have a6 := a5.other (R' := W.heap.size + 1) (o := 2) (by omega) (.iface pt pv)
  have b6 := b5.set2 (.iface pt pv)
  have g6 := grown_set (o := 2) (u := (.iface pt pv)) g5 (by omega : W.heap.size ≤ W.heap.size + 1)
  obtain ⟨sv6, hx6, _⟩ := id h6
  have xc := hx6.c2
  have xf := hx6.f 2
  clear hx6
  cases ik with
  | true =>
      go_wp2_with fail
      refine (hasLong_any _ _ _).mono ?_
      rintro e W7 ⟨rfl, hb7⟩
      have h7 := h6.keepB hb7
      have a7 := a6.below hb7
      have b7 := b6.below hb7
      have g7 := grown_below g6 hb7
      clear hb7
      obtain ⟨sv7, hx7, _⟩ := id h7
      have xc7 := hx7.c2
      have xf7 := hx7.f 2
      clear hx7
      have elo : decide ((ByteArray.mk v.toArray).size > 100) = !rt := by rw [mk_size, ← hrt, Bool.true_and]; by_cases hq : v.length ≤ 100 <;> simp [hq] <;> omega
      rw [elo]
      clear elo
      go_wp2_with fail
      have h8 := h7.mark (!rt)
      have a8 := a7.other (R' := Br) (o := 2) (by omega) (.bool (!rt))
      have b8 := b7.other (R' := Br) (o := 2) (by omega) (.bool (!rt))
      have g8 : W.grownBy _ (some Br) := grownBy_trans g7 (grownBy_setCell2 _ Br 2 (.bool (!rt)))
      generalize W7.setCell ⟨Br, 2, none⟩ (Value.bool (!rt)) = W8 at *
      clear xc7 xf7 h7 a7 b7 g7
      clear xc xf bc bc1 bc2 bf h5 a5 b5 g5 h6 a6 b6 g6
      obtain ⟨sv8, hx8, _⟩ := id h8
      have yc := hx8.c2
      have e0 := b8.c0
      have e1 := b8.c1
      have e2 := b8.c2
      have q0 := a8.c0
      have q1 := a8.c1
      have q2 := a8.c2
      have z0 := a8.f 0
      have z1 := a8.f 1
      have z2 := a8.f 2
      clear hx8
      go_region
      all_goals
        go_wp2_with fail
        have a9 := ((a8.set0 (.string ⟨k.toArray⟩)).set1 (.string ⟨v.toArray⟩)).set2 (.iface pt pv)
        have u0 := a9.c0
        have u1 := a9.c1
        have u2 := a9.c2
        refine bodyPost_ret (v := .tuple #[.agg #[.string ⟨k.toArray⟩, .string ⟨v.toArray⟩, (.iface pt pv)], .bool rt]) (by simp [results, Try.results54, go_sem, u0, u1, u2]) rfl ⟨by first | rfl | (rw [← hrt]; rfl) | (rw [← hrt]; simp), ?_, ?_⟩
        · have hh : Rdr _ B Br s sh (!rt) := (((h8.setE (o := 0) (u := .string ⟨k.toArray⟩) a8).setE (o := 1) (u := .string ⟨v.toArray⟩) (a8.set0 _)).setE (o := 2) (u := (.iface pt pv)) ((a8.set0 _).set1 _)).keep (grownBy_drew1 _)
          first | exact hh | (rw [← hrt]; exact hh) | (rw [← hrt]; simpa using hh)
        · exact grownBy_trans (grown_set (grown_set (grown_set g8 (Nat.le_refl _)) (Nat.le_refl _)) (Nat.le_refl _)) ⟨rfl, rfl, rfl, Nat.le_refl _, fun _ _ _ => rfl⟩
  | false =>
      have hr0 : rt = false := by rw [← hrt]; rfl
      subst hr0
      go_wp2_with fail
      have h8 := h6.mark true
      have a8 := a6.other (R' := Br) (o := 2) (by omega) (.bool true)
      have b8 := b6.other (R' := Br) (o := 2) (by omega) (.bool true)
      have g8 : W.grownBy _ (some Br) := grownBy_trans g6 (grownBy_setCell2 _ Br 2 (.bool true))
      generalize (W5.setCell ⟨W.heap.size + 1, 2, none⟩ (Value.iface pt pv)).setCell ⟨Br, 2, none⟩ (Value.bool true) = W8 at *
      clear xc xf bc bc1 bc2 bf h5 a5 b5 g5 h6 a6 b6 g6
      obtain ⟨sv8, hx8, _⟩ := id h8
      have yc := hx8.c2
      have e0 := b8.c0
      have e1 := b8.c1
      have e2 := b8.c2
      have q0 := a8.c0
      have q1 := a8.c1
      have q2 := a8.c2
      have z0 := a8.f 0
      have z1 := a8.f 1
      have z2 := a8.f 2
      clear hx8
      go_region
      all_goals
        go_wp2_with fail
        have a9 := ((a8.set0 (.string ⟨k.toArray⟩)).set1 (.string ⟨v.toArray⟩)).set2 (.iface pt pv)
        have u0 := a9.c0
        have u1 := a9.c1
        have u2 := a9.c2
        refine bodyPost_ret (v := .tuple #[.agg #[.string ⟨k.toArray⟩, .string ⟨v.toArray⟩, (.iface pt pv)], .bool false]) (by simp [results, Try.results54, go_sem, u0, u1, u2]) rfl ⟨by first | rfl | (rw [← hrt]; rfl) | (rw [← hrt]; simp), ?_, ?_⟩
        · have hh : Rdr _ B Br s sh (!false) := (((h8.setE (o := 0) (u := .string ⟨k.toArray⟩) a8).setE (o := 1) (u := .string ⟨v.toArray⟩) (a8.set0 _)).setE (o := 2) (u := (.iface pt pv)) ((a8.set0 _).set1 _)).keep (grownBy_drew1 _)
          first | exact hh | (rw [← hrt]; exact hh) | (rw [← hrt]; simpa using hh)
        · exact grownBy_trans (grown_set (grown_set (grown_set g8 (Nat.le_refl _)) (Nat.le_refl _)) (Nat.le_refl _)) ⟨rfl, rfl, rfl, Nat.le_refl _, fun _ _ _ => rfl⟩
end Go.Proofs.Ytbdnhccjlggpkaa

import Derived.Test.YtghlcllmfenoiaaU
import Derived.Defers
import Derived.Recover
import Derived.Laws.Pointers
namespace Go.Proofs.Ytghlcllmfenoiaa
open Go.RowKit
theorem catch_panicking (p q : Nat) (x y : Value) (u : TypeId) (pv : Value) (older : List PanicEntry) (w : World) (hc : Boxed w p 26 x) (hd : Boxed w q 4 y) (hne : p ≠ q) :
    CallsD Try.prog 45 #[.pointer (some ⟨p, 0, none⟩), .pointer (some ⟨q, 0, none⟩)] (.panicking ({ v := .iface u pv, recovered := false } :: older)) w fun e u' w' =>
      e = .returned (.tuple #[]) ∧ u' = .panicking ({ v := .iface u pv, recovered := true } :: older) ∧ w' = (w.setCell ⟨p, 0, none⟩ (.slice none 0 0)).setCell ⟨q, 0, none⟩ (.bool false) := by
  have c1 := hc.cell
  have f1 := hc.frozen
  have c2 := (hd.other (Ne.symm hne) (.slice none 0 0)).cell
  have f2 := (hd.other (Ne.symm hne) (.slice none 0 0)).frozen
  refine callsD_of_wpS Try.func45 rfl fun c₀ cs hu => ?_
  apply wpS_seq
  apply wpS_region
  simp [wpOpsS, go_sem, recoverD, hu, Try.ntmps45, Exit.thenS]
  refine wpS_cond (t := true) (by simp [Act.eval, Array.replicate]) ?_
  simp only [if_true]
  apply wpS_region
  simp [wpOpsS, go_sem, c1, f1, c2, f2, bodyPostS, results, Try.results45]
theorem catch_idle (p q : Addr) (w : World) :
    CallsD Try.prog 45 #[.pointer (some p), .pointer (some q)] .returning w fun e u' w' => e = .returned (.tuple #[]) ∧ u' = .returning ∧ w' = w := by
  refine callsD_of_wpS Try.func45 rfl fun c₀ cs hu => ?_
  apply wpS_seq
  apply wpS_region
  simp [wpOpsS, go_sem, recoverD, hu, Try.ntmps45, Exit.thenS]
  refine wpS_cond (t := false) (by simp [Act.eval, Array.replicate]) ?_
  simp only [Bool.false_eq_true, if_false]
  refine wpS_of_wp (wp_skip ?_)
  cases c₀
  simp_all [bodyPostS, results, Try.results45]
/-- How much a reader's box has left. -/
def left (Br : Nat) (w : World) : Nat := match w.cell? ⟨Br, 0, none⟩ with | some (.slice _ n _) => n | _ => 0
def decF : Nat → List UInt8 → Option (List RecB)
  | _, [] => some []
  | 0, _ :: _ => none
  | f + 1, c :: l => match one (c :: l) with
    | none => none
    | some (x, s) => (decF f s).map (x :: ·)
def decL (l : List UInt8) : Option (List RecB) := decF l.length l
theorem fld_len {l k r : List UInt8} (h : fld l = some (k, r)) : l.length = 1 + k.length + r.length := by
  cases l with
  | nil => cases h
  | cons c l =>
    rw [fld_cons] at h
    split at h
    · cases h; rw [List.length_take, List.length_drop, List.length_cons]; omega
    · cases h
theorem one_len {l s : List UInt8} {x : RecB} (h : one l = some (x, s)) : s.length + 2 ≤ l.length := by
  unfold one at h
  split at h
  · cases h
  · rename_i k r hf1
    split at h
    · cases h
    · rename_i v s' hf2
      split at h
      · cases h
        have h1 := fld_len hf1
        have h2 := fld_len hf2
        omega
      · cases h
theorem decF_more : ∀ (f : Nat) (l : List UInt8), l.length ≤ f → decF f l = decF l.length l := by
  intro f
  induction f using Nat.strongRecOn with
  | _ f ih =>
    intro l hl
    cases l with
    | nil => cases f <;> rfl
    | cons c l =>
      cases f with
      | zero => simp at hl
      | succ f =>
        rw [List.length_cons]
        unfold decF
        cases ho : one (c :: l) with
        | none => rfl
        | some y =>
          obtain ⟨x, s⟩ := y
          have h2 := one_len ho
          rw [List.length_cons] at h2 hl
          simp only
          rw [ih f (by omega) s (by omega), ih l.length (by omega) s (by omega)]
theorem decF_succ (f : Nat) (c : UInt8) (l : List UInt8) : decF (f + 1) (c :: l) = match one (c :: l) with
    | none => none
    | some (x, s) => (decF f s).map (x :: ·) := rfl
theorem decL_nil : decL [] = some [] := rfl
theorem decL_none {c : UInt8} {l : List UInt8} (h : one (c :: l) = none) : decL (c :: l) = none := by
  unfold decL; rw [List.length_cons]; unfold decF; rw [h]
theorem decL_some {c : UInt8} {l s : List UInt8} {x : RecB} (h : one (c :: l) = some (x, s)) : decL (c :: l) = (decL s).map (x :: ·) := by
  have h2 := one_len h
  rw [List.length_cons] at h2
  show decF (l.length + 1) (c :: l) = (decF s.length s).map (x :: ·)
  rw [decF_succ, h, ← decF_more l.length s (by omega)]
theorem left_of {W : World} {B Br : Nat} {l : List UInt8} (h : Rdr W B Br l) : left Br W = l.length := by
  obtain ⟨_, sv, hx, hs⟩ := h
  obtain ⟨ao, cap, rfl⟩ := hs.len
  unfold left
  rw [hx.cell]
theorem Rdr.cell {W : World} {B Br : Nat} {l : List UInt8} (h : Rdr W B Br l) : ∃ ao cap, W.cell? ⟨Br, 0, none⟩ = some (.slice ao l.length cap) := by
  obtain ⟨_, sv, hx, hs⟩ := h
  obtain ⟨ao, cap, rfl⟩ := hs.len
  exact ⟨ao, cap, hx.cell⟩
/-- The state of readRecords between two rounds. -/
def RR (w : World) (B : Nat) (l : List UInt8) (wr : World) : Prop :=
  ∃ r acc v, Rdr wr B (w.heap.size + 1 + 1) r ∧ Boxed wr w.heap.size 26 v ∧ Boxed wr (w.heap.size + 1) 4 (.bool false) ∧ wr.ownsRow w.heap.size 41 2 v acc.length (recCells acc) ∧ Below w.heap.size w wr ∧ acc.length + r.length ≤ l.length ∧ decL l = (decL r).map (acc ++ ·)
theorem rr_panic {w wr W1 : World} {v : Value} (hv : Boxed wr w.heap.size 26 v) (hok : Boxed wr (w.heap.size + 1) 4 (.bool false)) (hbel : Below w.heap.size w wr) (hg : wr.drew.grownBy W1 (some (w.heap.size + 1 + 1))) :
    Boxed W1 w.heap.size 26 v ∧ Boxed W1 (w.heap.size + 1) 4 (.bool false) ∧ Below w.heap.size w W1 := by
  have e1 : some w.heap.size ≠ some (w.heap.size + 1 + 1) := by simp; omega
  have e2 : some (w.heap.size + 1) ≠ some (w.heap.size + 1 + 1) := by simp
  exact ⟨(hg.block _ hv.lt e1).trans hv, (hg.block _ hok.lt e2).trans hok, hbel.drew.grown hg hbel.size (fun k e => by cases e; omega)⟩
theorem rr_start {w : World} {B : Nat} {ao : Option Addr} {cap : Nat} {l : List UInt8} (hB : B ≤ w.heap.size) (h : Sl w B (.slice ao l.length cap) l) :
    RR w B l (((w.alloc (.cells #[.slice none 0 0] 26)).alloc (.cells #[.bool false] 4)).alloc (.cells #[.slice ao l.length cap] 84)) := by
  have hb : Below w.heap.size w (((w.alloc (.cells #[.slice none 0 0] 26)).alloc (.cells #[.bool false] 4)).alloc (.cells #[.slice ao l.length cap] 84)) := (((Below.refl _ w).alloc (Nat.le_refl _) _).alloc (by simp) _).alloc (by simp; omega) _
  have b1 := Boxed.new w 26 (.slice none 0 0)
  have b2 := Boxed.new (w.alloc (.cells #[.slice none 0 0] 26)) 4 (.bool false)
  rw [World.size_alloc] at b2
  have b3 := Boxed.new ((w.alloc (.cells #[.slice none 0 0] 26)).alloc (.cells #[.bool false] 4)) 84 (.slice ao l.length cap)
  rw [World.size_alloc, World.size_alloc] at b3
  refine ⟨l, [], _, ⟨by omega, _, b3, h.below (hb.mono hB)⟩, (b1.alloc _).alloc _, b2.alloc _, World.ownsRow_nil _ _ _ _, hb, by simp, ?_⟩
  cases decL l <;> simp
theorem rr_call {w wr W1 : World} {B : Nat} {l : List UInt8} {acc : List RecB} {v : Value}
    (hv : Boxed wr w.heap.size 26 v) (hok : Boxed wr (w.heap.size + 1) 4 (.bool false)) (hbel : Below w.heap.size w wr) (hown : wr.ownsRow w.heap.size 41 2 v acc.length (recCells acc))
    (hR : Rdr wr B (w.heap.size + 1 + 1) l) (hg1 : wr.drew.grownBy W1 (some (w.heap.size + 1 + 1))) :
    Boxed W1 w.heap.size 26 v ∧ Boxed W1 (w.heap.size + 1) 4 (.bool false) ∧ Below w.heap.size w W1 ∧ W1.ownsRow w.heap.size 41 2 v acc.length (recCells acc) := by
  obtain ⟨v1, o1, b1⟩ := rr_panic hv hok hbel hg1
  obtain ⟨hBr, sv, hx, hs⟩ := hR
  exact ⟨v1, o1, b1, World.ownsRow.kept (w := wr.drew) hown hg1 (Or.inr (Ne.symm (hx.not_row (by decide) hown)))⟩
/-- Behind a record that was read and laid into the list. -/
theorem rr_next {w W1 w2 : World} {B : Nat} {l s r : List UInt8} {acc : List RecB} {v v' : Value} {x : RecB} {c : UInt8} (hB : B ≤ w.heap.size)
    (v1 : Boxed W1 w.heap.size 26 v) (o1 : Boxed W1 (w.heap.size + 1) 4 (.bool false)) (b1 : Below w.heap.size w W1) (hrow1 : W1.ownsRow w.heap.size 41 2 v acc.length (recCells acc))
    (hlen : acc.length + (c :: r).length ≤ l.length) (hD : decL l = (decL (c :: r)).map (acc ++ ·)) (ho : one (c :: r) = some (x, s))
    (hR1 : Rdr W1 B (w.heap.size + 1 + 1) s)
    (hown2 : w2.ownsRow w.heap.size 41 2 v' (acc.length + 1) (recCells acc ++ [.string x.1, .string x.2])) (hg2 : (W1.alloc (.cells #[.string x.1, .string x.2] 41)).grownBy w2 v.ownBlock) :
    RR w B l (w2.setCell ⟨w.heap.size, 0, none⟩ v') ∧ left (w.heap.size + 1 + 1) (w2.setCell ⟨w.heap.size, 0, none⟩ v') < (c :: r).length := by
  obtain ⟨hBr, sv, hx, hs⟩ := hR1
  have v2 := (v1.alloc (.cells #[.string x.1, .string x.2] 41)).kept hg2 (v1.not_row (by decide) hrow1)
  have o2 := (o1.alloc (.cells #[.string x.1, .string x.2] 41)).kept hg2 (o1.not_row (by decide) hrow1)
  have x2 := (hx.alloc (.cells #[.string x.1, .string x.2] 41)).kept hg2 (hx.not_row (by decide) hrow1)
  have b2 : Below w.heap.size w w2 := (b1.alloc b1.size _).grown hg2 (by have := b1.size; simp; omega) (fun i e => (hrow1.lt i e).1)
  have hR2 : Rdr (w2.setCell ⟨w.heap.size, 0, none⟩ v') B (w.heap.size + 1 + 1) s := by
    refine ⟨hBr, sv, x2.other (by omega) v', hs.below (Below.mono ?_ hB)⟩
    exact (((Below.refl w.heap.size W1).alloc b1.size _).grown hg2 (by have := b1.size; simp; omega) (fun i e => (hrow1.lt i e).1)).setCell (p := ⟨w.heap.size, 0, none⟩) (Nat.le_refl _) v'
  have h2 := one_len ho
  refine ⟨⟨s, acc ++ [x], v', hR2, v2.set v', o2.other (by omega) v', ?_, b2.setCell (p := ⟨w.heap.size, 0, none⟩) (Nat.le_refl _) v', ?_, ?_⟩, ?_⟩
  · have hk : w2.ownsRow w.heap.size 41 2 v' (acc ++ [x]).length (recCells (acc ++ [x])) := by
      rw [recCells_append, List.length_append]; exact hown2
    exact hk.kept (grownBy_setCell' w2 w.heap.size v') (.inr (Ne.symm (v2.not_row (by decide) hk)))
  · rw [List.length_append, List.length_singleton]; omega
  · rw [hD, decL_some ho]
    cases decL s <;> simp
  · rw [left_of hR2]; omega
/-- What readRecords answers. -/
def RPost (w : World) (d : Option (List RecB)) (e : Ending) (w' : World) : Prop :=
  match d with
  | some rs => ∃ v', e = .returned (.tuple #[v', .bool true]) ∧ w'.ownsRow w.heap.size 41 2 v' rs.length (recCells rs) ∧ Below w.heap.size w w'
  | none => e = .returned (.tuple #[.slice none 0 0, .bool false]) ∧ Below w.heap.size w w'
set_option maxHeartbeats 3200000 in
set_option maxRecDepth 100000 in
theorem readRecords_any {w : World} {B : Nat} {v : Value} {l : List UInt8} (hB : B ≤ w.heap.size) (hmax : l.length ≤ 268435456) (h : Sl w B v l) :
    Calls Try.prog 34 #[v] w fun e w' => RPost w (decL l) e w' := by
  have hmf : ∀ (fn : Fn) (first cap : Array Value) (w : World), (Instr.makeFunc fn first cap).run Try.prog w = .ok (.func fn first cap) w := fun _ _ _ _ => rfl
  obtain ⟨ao, cap, rfl⟩ := h.len
  obtain ⟨i0, hi0, hz0, hz1, hz2⟩ := info_parts info41
  go_enter_defers Try.func34, Try.ntmps34
  go_wp2_with fail
  go_loopw [8] (fun _ wr => RR w B l wr) (fun _ wr => left (w.heap.size + 1 + 1) wr)
  case atStart => exact rr_start hB h
  case round =>
    obtain ⟨r, acc, v, hR, hv, hok, hown, hbel, hlen, hD⟩ := hrel
    obtain ⟨av, cv, rfl⟩ : ∃ a c, v = .slice a acc.length c := by
      rcases hown.2 with ⟨rfl, h⟩ | ⟨g, cap, cur, rfl, _⟩
      · exact ⟨none, 0, by rw [h]⟩
      · exact ⟨_, _, rfl⟩
    cases r with
    | nil =>
      obtain ⟨ao2, cap2, hrc⟩ := hR.cell
      have HD : Hid (decL l = some acc) := by show _ = _; rw [hD, decL_nil]; simp
      have c1 := hv.cell
      have f1 := hv.frozen
      have c2 := hok.cell
      have f2 := hok.frozen
      clear hD
      go_wp2_with fail
      refine leaves_cons (f := 45) (args := #[.pointer (some ⟨w.heap.size, 0, none⟩), .pointer (some ⟨w.heap.size + 1, 0, none⟩)]) (by simp) (by simp [go_sem]) ?_
      refine (catch_idle _ _ _).mono ?_
      rintro e u' w'' ⟨rfl, rfl, rfl⟩
      have q1 := (hv.set (.slice av acc.length cv)).cell
      have q2 := ((hok.other (B' := w.heap.size) (by omega) (.slice av acc.length cv)).set (.bool true)).cell
      have b2 := (hbel.setCell (p := ⟨w.heap.size, 0, none⟩) (Nat.le_refl _) (.slice av acc.length cv)).setCell (p := ⟨w.heap.size + 1, 0, none⟩) (Nat.le_succ _) (.bool true)
      have o2 : ((wr.setCell ⟨w.heap.size, 0, none⟩ (.slice av acc.length cv)).setCell ⟨w.heap.size + 1, 0, none⟩ (.bool true)).ownsRow w.heap.size 41 2 (.slice av acc.length cv) acc.length (recCells acc) :=
        (hown.kept (grownBy_setCell' wr w.heap.size _) (.inr (Ne.symm (hv.not_row (by decide) hown)))).kept (grownBy_setCell' _ (w.heap.size + 1) _) (.inr (Ne.symm (hok.not_row (by decide) hown)))
      rw [HD.out]
      simp [Leaves, settle, results, Try.results34, go_sem, q1, q2, RPost]
      exact ⟨o2, b2⟩
    | cons c r =>
      obtain ⟨ao2, cap2, hrc⟩ := hR.cell
      have hpos : (0 : Int) < ((c :: r).length : Int) := by rw [List.length_cons]; omega
      cases ho : one (c :: r) with
      | none =>
        have HN : Hid (decL l = none) := by show _ = _; rw [hD, decL_none ho]; rfl
        clear hD
        go_wp2_with fail
        have hR1 : Rdr wr.drew B (w.heap.size + 1 + 1) (c :: r) := hR
        have hvc := hv.cell
        refine wp_region_any (by kernel_rfl) ?_
        change wpAny _ _ _ _ _ _ _ (World.drew _)
        refine wpAny_ready (rs := [0, 1]) (by kernel_rfl) (by simp) ?_
        refine AllReady.cons rfl (fun K hK => ?_) (AllReady.cons rfl (fun K hK => ?_) AllReady.nil)
        · go_simp
          refine hK _ _ ?_
          clear hK K
          refine wpAny_ready (rs := [1]) (by kernel_rfl) (by simp) ?_
          refine AllReady.cons rfl (fun K hK => ?_) AllReady.nil
          go_simp
          refine (record_no hR1 ho).mono ?_
          rintro e W1 ⟨rfl, hg1⟩
          obtain ⟨v1, o1, b1⟩ := rr_panic hv hok hbel hg1
          refine leaves_cons (f := 45) (args := #[.pointer (some ⟨w.heap.size, 0, none⟩), .pointer (some ⟨w.heap.size + 1, 0, none⟩)]) (by simp) (by simp [go_sem]) ?_
          refine (catch_panicking w.heap.size (w.heap.size + 1) _ _ 93 _ [] W1 v1 o1 (by omega)).mono ?_
          rintro e u' w'' ⟨rfl, rfl, rfl⟩
          have q1 := (v1.set (.slice none 0 0)).cell
          have q2 := ((o1.other (B' := w.heap.size) (by omega) (.slice none 0 0)).set (.bool false)).cell
          have b2 := (b1.setCell (p := ⟨w.heap.size, 0, none⟩) (Nat.le_refl _) (.slice none 0 0)).setCell (p := ⟨w.heap.size + 1, 0, none⟩) (Nat.le_succ _) (.bool false)
          rw [HN.out]
          simp [Leaves, settle, results, Try.results34, go_sem, q1, q2, RPost, b2]
        · go_simp
          refine (record_no hR1 ho).mono ?_
          rintro e W1 ⟨rfl, hg1⟩
          obtain ⟨v1, o1, b1⟩ := rr_panic hv hok hbel hg1
          refine leaves_cons (f := 45) (args := #[.pointer (some ⟨w.heap.size, 0, none⟩), .pointer (some ⟨w.heap.size + 1, 0, none⟩)]) (by simp) (by simp [go_sem]) ?_
          refine (catch_panicking w.heap.size (w.heap.size + 1) _ _ 93 _ [] W1 v1 o1 (by omega)).mono ?_
          rintro e u' w'' ⟨rfl, rfl, rfl⟩
          have q1 := (v1.set (.slice none 0 0)).cell
          have q2 := ((o1.other (B' := w.heap.size) (by omega) (.slice none 0 0)).set (.bool false)).cell
          have b2 := (b1.setCell (p := ⟨w.heap.size, 0, none⟩) (Nat.le_refl _) (.slice none 0 0)).setCell (p := ⟨w.heap.size + 1, 0, none⟩) (Nat.le_succ _) (.bool false)
          rw [HN.out]
          simp [Leaves, settle, results, Try.results34, go_sem, q1, q2, RPost, b2]
      | some y =>
        obtain ⟨x, s⟩ := y
        have HD : Hid (decL l = (decL (c :: r)).map (acc ++ ·)) := hD
        have HO : Hid (one (c :: r) = some (x, s)) := ho
        clear hD ho
        have hR1 : Rdr wr.drew B (w.heap.size + 1 + 1) (c :: r) := hR
        have hvc := hv.cell
        have hvf := hv.frozen
        have hab : acc.length ≤ 268435456 := by omega
        go_wp2_with fail
        refine wp_region_any (by kernel_rfl) ?_
        change wpAny _ _ _ _ _ _ _ (World.drew _)
        refine wpAny_ready (rs := [0, 1]) (by kernel_rfl) (by simp) ?_
        refine AllReady.cons rfl (fun K hK => ?_) (AllReady.cons rfl (fun K hK => ?_) AllReady.nil)
        · go_simp
          refine hK _ _ ?_
          clear hK K
          refine wpAny_ready (rs := [1]) (by kernel_rfl) (by simp) ?_
          refine AllReady.cons rfl (fun K hK => ?_) AllReady.nil
          go_simp
          refine (record_ok hR1 HO.out).mono ?_
          rintro e W1 ⟨rfl, hR2, hgrow⟩
          obtain ⟨hv1, o1, b1, hrow1⟩ := rr_call hv hok hbel hown hR hgrow
          have hc1 := hv1.cell
          have hc2 := (hv1.alloc (.cells #[.string x.1, .string x.2] 41)).cell
          refine hK _ _ ?_
          clear hK K
          refine wpAny_ready (rs := [2]) (by kernel_rfl) (by simp) ?_
          refine AllReady.cons rfl (fun K hK => ?_) AllReady.nil
          go_simp
          refine hK _ _ ?_
          clear hK K
          refine wpAny_ready (rs := [3]) (by kernel_rfl) (by simp) ?_
          refine AllReady.cons rfl (fun K hK => ?_) AllReady.nil
          refine step_append_lies _ (by rfl) _ _ _ (by rfl) w.heap.size 41 i0 _ 2 32 Try.underlying26 hi0 hz0 hz1 hz2 rfl (by omega) _ acc.length _ (by rfl) (hrow1.alloc _) ⟨W1.heap.size, 0, none⟩ 1 1 [.string x.1, .string x.2] (by rfl) (by rfl) (World.news_of_block (cs := #[.string x.1, .string x.2]) (t := 41) (fr := (0, 0)) (heap_alloc_new W1 _)) (by simp [Value.oneCell']) (by omega) (by unfold maxLen; omega) (by omega) (by have := b1.size; simp; omega) (W1.heap.size + 1) (by simp) ?_
          intro gg cap' w1 hown1 hgrow1 hat hlt1
          have hv2 := (hv1.alloc (.cells #[.string x.1, .string x.2] 41)).kept hgrow1 (hv1.not_row (by decide) hrow1)
          have hc3 := hv2.cell
          have hf3 := hv2.frozen
          refine hK _ _ ?_
          clear hK K hat hlt1
          refine wpAny_ready (rs := [4]) (by kernel_rfl) (by simp) ?_
          refine AllReady.cons rfl (fun K hK => ?_) AllReady.nil
          go_simp
          refine hK _ _ ?_
          clear hK K
          refine wpAny_done (by kernel_rfl) ?_ _
          obtain ⟨RN, LN⟩ := rr_next hB hv1 o1 b1 hrow1 hlen HD.out HO.out hR2 hown1 hgrow1
          go_wp2_with fail
          go_roundw
          case rel => exact RN
          case measure => rw [left_of hR]; exact LN
        · go_simp
          refine (record_ok hR1 HO.out).mono ?_
          rintro e W1 ⟨rfl, hR2, hgrow⟩
          obtain ⟨hv1, o1, b1, hrow1⟩ := rr_call hv hok hbel hown hR hgrow
          have hc1 := hv1.cell
          have hc2 := (hv1.alloc (.cells #[.string x.1, .string x.2] 41)).cell
          refine hK _ _ ?_
          clear hK K
          refine wpAny_ready (rs := [0, 2]) (by kernel_rfl) (by simp) ?_
          refine AllReady.cons rfl (fun K hK => ?_) (AllReady.cons rfl (fun K hK => ?_) AllReady.nil)
          · go_simp
            refine hK _ _ ?_
            clear hK K
            refine wpAny_ready (rs := [2]) (by kernel_rfl) (by simp) ?_
            refine AllReady.cons rfl (fun K hK => ?_) AllReady.nil
            go_simp
            refine hK _ _ ?_
            clear hK K
            refine wpAny_ready (rs := [3]) (by kernel_rfl) (by simp) ?_
            refine AllReady.cons rfl (fun K hK => ?_) AllReady.nil
            refine step_append_lies _ (by rfl) _ _ _ (by rfl) w.heap.size 41 i0 _ 2 32 Try.underlying26 hi0 hz0 hz1 hz2 rfl (by omega) _ acc.length _ (by rfl) (hrow1.alloc _) ⟨W1.heap.size, 0, none⟩ 1 1 [.string x.1, .string x.2] (by rfl) (by rfl) (World.news_of_block (cs := #[.string x.1, .string x.2]) (t := 41) (fr := (0, 0)) (heap_alloc_new W1 _)) (by simp [Value.oneCell']) (by omega) (by unfold maxLen; omega) (by omega) (by have := b1.size; simp; omega) (W1.heap.size + 1) (by simp) ?_
            intro gg cap' w1 hown1 hgrow1 hat hlt1
            have hv2 := (hv1.alloc (.cells #[.string x.1, .string x.2] 41)).kept hgrow1 (hv1.not_row (by decide) hrow1)
            have hc3 := hv2.cell
            have hf3 := hv2.frozen
            refine hK _ _ ?_
            clear hK K hat hlt1
            refine wpAny_ready (rs := [4]) (by kernel_rfl) (by simp) ?_
            refine AllReady.cons rfl (fun K hK => ?_) AllReady.nil
            go_simp
            refine hK _ _ ?_
            clear hK K
            refine wpAny_done (by kernel_rfl) ?_ _
            obtain ⟨RN, LN⟩ := rr_next hB hv1 o1 b1 hrow1 hlen HD.out HO.out hR2 hown1 hgrow1
            go_wp2_with fail
            go_roundw
            case rel => exact RN
            case measure => rw [left_of hR]; exact LN
          · go_simp
            refine hK _ _ ?_
            clear hK K
            refine wpAny_ready (rs := [0]) (by kernel_rfl) (by simp) ?_
            refine AllReady.cons rfl (fun K hK => ?_) AllReady.nil
            go_simp
            refine hK _ _ ?_
            clear hK K
            refine wpAny_ready (rs := [3]) (by kernel_rfl) (by simp) ?_
            refine AllReady.cons rfl (fun K hK => ?_) AllReady.nil
            refine step_append_lies _ (by rfl) _ _ _ (by rfl) w.heap.size 41 i0 _ 2 32 Try.underlying26 hi0 hz0 hz1 hz2 rfl (by omega) _ acc.length _ (by rfl) (hrow1.alloc _) ⟨W1.heap.size, 0, none⟩ 1 1 [.string x.1, .string x.2] (by rfl) (by rfl) (World.news_of_block (cs := #[.string x.1, .string x.2]) (t := 41) (fr := (0, 0)) (heap_alloc_new W1 _)) (by simp [Value.oneCell']) (by omega) (by unfold maxLen; omega) (by omega) (by have := b1.size; simp; omega) (W1.heap.size + 1) (by simp) ?_
            intro gg cap' w1 hown1 hgrow1 hat hlt1
            have hv2 := (hv1.alloc (.cells #[.string x.1, .string x.2] 41)).kept hgrow1 (hv1.not_row (by decide) hrow1)
            have hc3 := hv2.cell
            have hf3 := hv2.frozen
            refine hK _ _ ?_
            clear hK K hat hlt1
            refine wpAny_ready (rs := [4]) (by kernel_rfl) (by simp) ?_
            refine AllReady.cons rfl (fun K hK => ?_) AllReady.nil
            go_simp
            refine hK _ _ ?_
            clear hK K
            refine wpAny_done (by kernel_rfl) ?_ _
            obtain ⟨RN, LN⟩ := rr_next hB hv1 o1 b1 hrow1 hlen HD.out HO.out hR2 hown1 hgrow1
            go_wp2_with fail
            go_roundw
            case rel => exact RN
            case measure => rw [left_of hR]; exact LN
end Go.Proofs.Ytghlcllmfenoiaa

import Derived.Test.YtbdnhccjlggpkaaS
namespace Go.Proofs.Ytbdnhccjlggpkaa
open Go.RowKit
/-- A Varint and as many bytes. -/
def fld : List UInt8 → Option (List UInt8 × List UInt8)
  | [] => none
  | c :: l => if c.toNat ≤ l.length then some (l.take c.toNat, l.drop c.toNat) else none
theorem fld_cons (c : UInt8) (l : List UInt8) : fld (c :: l) = if c.toNat ≤ l.length then some (l.take c.toNat, l.drop c.toNat) else none := rfl
def one (l : List UInt8) : Option (RecB × List UInt8) :=
  match fld l with
  | none => none
  | some (k, r) => match fld r with
    | none => none
    | some (v, s) => if isKeyL k = true ∧ v.length ≤ 100 then some ((⟨k.toArray⟩, ⟨v.toArray⟩), s) else none
def decF : Nat → List UInt8 → Option (List RecB)
  | _, [] => some []
  | 0, _ :: _ => none
  | f + 1, c :: l => match one (c :: l) with
    | none => none
    | some (x, s) => (decF f s).map (x :: ·)
def decL (l : List UInt8) : Option (List RecB) := decF l.length l
theorem fld_len {l k r : List UInt8} (h : fld l = some (k, r)) : l.length = 1 + k.length + r.length := by
  cases l with
  | nil => cases h
  | cons c l =>
    rw [fld_cons] at h
    split at h
    · cases h; rw [List.length_take, List.length_drop, List.length_cons]; omega
    · cases h
theorem one_len {l s : List UInt8} {x : RecB} (h : one l = some (x, s)) : s.length + 2 ≤ l.length := by
  unfold one at h
  split at h
  · cases h
  · rename_i k r hf1
    split at h
    · cases h
    · rename_i v s' hf2
      split at h
      · cases h
        have h1 := fld_len hf1
        have h2 := fld_len hf2
        omega
      · cases h
theorem decF_more : ∀ (f : Nat) (l : List UInt8), l.length ≤ f → decF f l = decF l.length l := by
  intro f
  induction f using Nat.strongRecOn with
  | _ f ih =>
    intro l hl
    cases l with
    | nil => cases f <;> rfl
    | cons c l =>
      cases f with
      | zero => simp at hl
      | succ f =>
        rw [List.length_cons]
        unfold decF
        cases ho : one (c :: l) with
        | none => rfl
        | some y =>
          obtain ⟨x, s⟩ := y
          have h2 := one_len ho
          rw [List.length_cons] at h2 hl
          simp only
          rw [ih f (by omega) s (by omega), ih l.length (by omega) s (by omega)]
theorem decF_succ (f : Nat) (c : UInt8) (l : List UInt8) : decF (f + 1) (c :: l) = match one (c :: l) with
    | none => none
    | some (x, s) => (decF f s).map (x :: ·) := rfl
theorem decL_nil : decL [] = some [] := rfl
theorem decL_none {c : UInt8} {l : List UInt8} (h : one (c :: l) = none) : decL (c :: l) = none := by
  unfold decL; rw [List.length_cons]; unfold decF; rw [h]
theorem decL_some {c : UInt8} {l s : List UInt8} {x : RecB} (h : one (c :: l) = some (x, s)) : decL (c :: l) = (decL s).map (x :: ·) := by
  have h2 := one_len h
  rw [List.length_cons] at h2
  show decF (l.length + 1) (c :: l) = (decF s.length s).map (x :: ·)
  rw [decF_succ, h, ← decF_more l.length s (by omega)]
theorem fld_more {l k r : List UInt8} (h : fld l = some (k, r)) (X : List UInt8) : fld (l ++ X) = some (k, r ++ X) := by
  cases l with
  | nil => cases h
  | cons c l =>
    rw [fld_cons] at h
    split at h
    · rename_i hc
      cases h
      rw [List.cons_append, fld_cons, if_pos (by rw [List.length_append]; omega), List.take_append_of_le_length hc, List.drop_append_of_le_length hc]
    · cases h
/-- A whole record, be it a right one or not. -/
def whole (l : List UInt8) : Option ((List UInt8 × List UInt8) × List UInt8) :=
  match fld l with
  | none => none
  | some (k, r) => match fld r with
    | none => none
    | some (v, s) => some ((k, v), s)
def right (k v : List UInt8) : Bool := isKeyL k && decide (v.length ≤ 100)
theorem whole_parts {l k v s : List UInt8} (h : whole l = some ((k, v), s)) : ∃ r, fld l = some (k, r) ∧ fld r = some (v, s) := by
  unfold whole at h
  split at h
  · cases h
  · rename_i k' r hf1
    split at h
    · cases h
    · rename_i v' s' hf2
      cases h
      exact ⟨r, hf1, hf2⟩
theorem whole_of {l k v r s : List UInt8} (h1 : fld l = some (k, r)) (h2 : fld r = some (v, s)) : whole l = some ((k, v), s) := by
  unfold whole; rw [h1]; simp only; rw [h2]
theorem whole_more {l k v s : List UInt8} (h : whole l = some ((k, v), s)) (X : List UInt8) : whole (l ++ X) = some ((k, v), s ++ X) := by
  obtain ⟨r, h1, h2⟩ := whole_parts h
  exact whole_of (fld_more h1 X) (fld_more h2 X)
theorem one_whole {l k v s : List UInt8} (h : whole l = some ((k, v), s)) : one l = if right k v = true then some ((⟨k.toArray⟩, ⟨v.toArray⟩), s) else none := by
  obtain ⟨r, h1, h2⟩ := whole_parts h
  unfold one
  rw [h1]; simp only; rw [h2]
  unfold right
  simp
theorem one_none {l : List UInt8} (h : whole l = none) : one l = none := by
  unfold whole at h
  unfold one
  cases hf1 : fld l with
  | none => rfl
  | some y =>
    obtain ⟨k, r⟩ := y
    rw [hf1] at h
    simp only at h ⊢
    cases hf2 : fld r with
    | none => rfl
    | some z =>
      obtain ⟨v, s⟩ := z
      rw [hf2] at h
      cases h
theorem whole_ne {l k v s : List UInt8} (h : whole l = some ((k, v), s)) : ∃ c t, l = c :: t := by
  cases l with
  | nil => cases h
  | cons c t => exact ⟨c, t, rfl⟩
theorem whole_len {l k v s : List UInt8} (h : whole l = some ((k, v), s)) : s.length + 2 ≤ l.length := by
  obtain ⟨r, h1, h2⟩ := whole_parts h
  have := fld_len h1
  have := fld_len h2
  omega
/-- Every piece but the last is full. -/
def fullP : List (List UInt8) → Prop
  | [] => True
  | [_] => True
  | p :: q :: ps => ¬ p.length < 60 ∧ fullP (q :: ps)
def lastShort : List (List UInt8) → Prop
  | [] => False
  | [p] => p.length < 60
  | _ :: q :: ps => lastShort (q :: ps)
theorem fullP_snoc : ∀ (ps : List (List UInt8)) (p : List UInt8), fullP (ps ++ [p]) ↔ fullP ps ∧ ¬ lastShort ps
  | [], p => by simp [fullP, lastShort]
  | [a], p => by simp [fullP, lastShort]
  | a :: q :: ps, p => by
    have ih := fullP_snoc (q :: ps) p
    simp only [List.cons_append, fullP, lastShort] at ih ⊢
    rw [ih, and_assoc]
theorem lastShort_snoc : ∀ (ps : List (List UInt8)) (p : List UInt8), lastShort (ps ++ [p]) ↔ p.length < 60
  | [], p => by simp [lastShort]
  | [a], p => by simp [lastShort]
  | a :: q :: ps, p => by
    have ih := lastShort_snoc (q :: ps) p
    simp only [List.cons_append, lastShort] at ih ⊢
    exact ih
theorem fullP_more : ∀ (qs ps : List (List UInt8)), fullP (ps ++ qs) → fullP ps
  | [], ps => by simp
  | q :: qs, ps => fun h => by
    have h2 : fullP ((ps ++ [q]) ++ qs) := by simpa using h
    exact ((fullP_snoc ps q).1 (fullP_more qs _ h2)).1
def fullQ : List (List UInt8) → Bool
  | [] => true
  | [_] => true
  | p :: q :: ps => !decide (p.length < 60) && fullQ (q :: ps)
theorem fullQ_iff : ∀ ps : List (List UInt8), fullQ ps = true ↔ fullP ps
  | [] => by simp [fullQ, fullP]
  | [_] => by simp [fullQ, fullP]
  | p :: q :: ps => by
    have ih := fullQ_iff (q :: ps)
    simp only [fullQ, fullP, Bool.and_eq_true, ih]
    simp
/-- What the pieces of a text are read as. -/
def ans (ps : List (List UInt8)) : Option (List RecB) := if fullQ ps = true then decL ps.flatten else none
theorem ans_pos {ps : List (List UInt8)} (h : fullP ps) : ans ps = decL ps.flatten := by unfold ans; rw [if_pos ((fullQ_iff ps).2 h)]
theorem ans_neg {ps : List (List UInt8)} (h : ¬ fullP ps) : ans ps = none := by unfold ans; rw [if_neg (fun e => h ((fullQ_iff ps).1 e))]
/-- What a reader holds between two steps, of the pieces that came. -/
def Inv (ps : List (List UInt8)) (acc : List RecB) (rest : List UInt8) (short wrong : Bool) : Prop :=
  (wrong = false → (∀ X, decL (ps.flatten ++ X) = (decL (rest ++ X)).map (acc ++ ·)) ∧ fullP ps ∧ (short = true ↔ lastShort ps)) ∧
  (wrong = true → ∀ qs, ans (ps ++ qs) = none) ∧ acc.length + rest.length ≤ ps.flatten.length
theorem Inv.start : Inv [] [] [] false false :=
  ⟨fun _ => ⟨fun X => by cases h : decL X <;> simp [h], trivial, by simp [lastShort]⟩, fun h => (by cases h), by simp⟩
theorem ans_bad {ps : List (List UInt8)} (h : ∀ X, decL (ps.flatten ++ X) = none) (qs : List (List UInt8)) : ans (ps ++ qs) = none := by
  unfold ans
  split
  · rw [List.flatten_append, h]
  · rfl
/-- A piece comes. -/
theorem Inv.feed {ps : List (List UInt8)} {acc : List RecB} {rest : List UInt8} {short wrong : Bool} (h : Inv ps acc rest short wrong) (p : List UInt8) :
    Inv (ps ++ [p]) acc (if (wrong || short) = true then rest else rest ++ p) (decide (p.length < 60)) (wrong || short) := by
  obtain ⟨h1, h2, h3⟩ := h
  cases wrong with
  | true =>
    refine ⟨fun e => (by cases e), fun _ qs => ?_, ?_⟩
    · rw [List.append_assoc]; exact h2 rfl _
    · simp; simp at h3; omega
  | false =>
    obtain ⟨a1, a2, a3⟩ := h1 rfl
    cases short with
    | true =>
      refine ⟨fun e => (by cases e), fun _ qs => ?_, ?_⟩
      · refine ans_neg ?_
        intro hf
        exact ((fullP_snoc ps p).1 (fullP_more _ _ hf)).2 (a3.1 rfl)
      · simp; simp at h3; omega
    | false =>
      refine ⟨fun _ => ⟨fun X => ?_, ?_, ?_⟩, fun e => (by cases e), ?_⟩
      · have := a1 (p ++ X)
        simp at this ⊢
        exact this
      · rw [fullP_snoc]; exact ⟨a2, fun hl => by have := a3.2 hl; cases this⟩
      · rw [lastShort_snoc]; simp
      · simp; simp at h3; omega
/-- A right record is taken. -/
theorem Inv.take {ps : List (List UInt8)} {acc : List RecB} {rest k v s : List UInt8} {short : Bool} (h : Inv ps acc rest short false) (hw : whole rest = some ((k, v), s)) (hr : right k v = true) :
    Inv ps (acc ++ [(⟨k.toArray⟩, ⟨v.toArray⟩)]) s short false := by
  obtain ⟨h1, h2, h3⟩ := h
  obtain ⟨a1, a2, a3⟩ := h1 rfl
  refine ⟨fun _ => ⟨fun X => ?_, a2, a3⟩, fun e => (by cases e), ?_⟩
  · rw [a1 X]
    have hm := whole_more hw X
    have ho := one_whole hm
    rw [if_pos hr] at ho
    obtain ⟨c, t, hc⟩ := whole_ne hm
    rw [hc] at ho ⊢
    rw [decL_some ho]
    cases decL (s ++ X) <;> simp
  · have := whole_len hw
    rw [List.length_append, List.length_singleton]; omega
/-- A wrong one is met. -/
theorem Inv.spoil {ps : List (List UInt8)} {acc : List RecB} {rest k v s : List UInt8} {short : Bool} (h : Inv ps acc rest short false) (hw : whole rest = some ((k, v), s)) (hr : right k v = false) :
    Inv ps acc s short true := by
  obtain ⟨h1, h2, h3⟩ := h
  obtain ⟨a1, a2, a3⟩ := h1 rfl
  refine ⟨fun e => (by cases e), fun _ qs => ans_bad (fun X => ?_) qs, ?_⟩
  · rw [a1 X]
    have hm := whole_more hw X
    have ho := one_whole hm
    rw [if_neg (by rw [hr]; decide)] at ho
    obtain ⟨c, t, hc⟩ := whole_ne hm
    rw [hc] at ho ⊢
    rw [decL_none ho]; rfl
  · have := whole_len hw; omega
/-- Behind the last piece. -/
theorem Inv.ok {ps : List (List UInt8)} {acc : List RecB} {short : Bool} (h : Inv ps acc [] short false) : ans ps = some acc := by
  obtain ⟨a1, a2, a3⟩ := h.1 rfl
  rw [ans_pos a2]
  have := a1 []
  simp only [List.append_nil] at this
  rw [this, decL_nil]; simp
theorem Inv.bad {ps : List (List UInt8)} {acc : List RecB} {rest : List UInt8} {short : Bool} (h : Inv ps acc rest short true) : ans ps = none := by
  have := h.2.1 rfl []
  rwa [List.append_nil] at this
theorem Inv.rest {ps : List (List UInt8)} {acc : List RecB} {rest : List UInt8} {short : Bool} (h : Inv ps acc rest short false) (hr : rest ≠ []) (hw : whole rest = none) : ans ps = none := by
  obtain ⟨a1, a2, a3⟩ := h.1 rfl
  rw [ans_pos a2]
  have := a1 []
  simp only [List.append_nil] at this
  rw [this]
  cases rest with
  | nil => exact absurd rfl hr
  | cons c t => rw [decL_none (one_none hw)]; rfl
end Go.Proofs.Ytbdnhccjlggpkaa

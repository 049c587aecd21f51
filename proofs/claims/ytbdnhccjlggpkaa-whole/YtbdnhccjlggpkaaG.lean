import Derived.Test.YtbdnhccjlggpkaaF
namespace Go.Proofs.Ytbdnhccjlggpkaa
open Go.RowKit
/-- What a way to compare must keep. -/
structure Pre {α : Type} (c : α → α → Int) : Prop where
  rng : ∀ a b, c a b = -1 ∨ c a b = 0 ∨ c a b = 1
  anti : ∀ a b, c b a = - c a b
  trans : ∀ a b d, c a b ≤ 0 → c b d ≤ 0 → c a d ≤ 0 ∧ (c a d = 0 ↔ c a b = 0 ∧ c b d = 0)
theorem Pre.refl {α : Type} {c : α → α → Int} (h : Pre c) (a : α) : c a a = 0 := by
  have := h.anti a a; omega
theorem pre_cI : Pre cI := by
  refine ⟨fun a b => ?_, fun a b => ?_, fun a b d => ?_⟩
  · unfold cI; split
    · simp
    · split <;> simp
  · unfold cI; repeat' split
    all_goals omega
  · unfold cI; repeat' split
    all_goals omega
theorem Pre.pull {α β : Type} {c : α → α → Int} (h : Pre c) (f : β → α) : Pre (fun x y => c (f x) (f y)) :=
  ⟨fun _ _ => h.rng _ _, fun _ _ => h.anti _ _, fun _ _ _ => h.trans _ _ _⟩
theorem Pre.lex {α : Type} {c1 c2 : α → α → Int} (h1 : Pre c1) (h2 : Pre c2) : Pre (fun x y => if c1 x y = 0 then c2 x y else c1 x y) := by
  refine ⟨fun a b => ?_, fun a b => ?_, fun a b d => ?_⟩
  · split
    · exact h2.rng a b
    · exact h1.rng a b
  · have e1 := h1.anti a b
    have e2 := h2.anti a b
    repeat' split
    all_goals omega
  · have t1 := h1.trans a b d
    have t2 := h2.trans a b d
    have r1 := h1.rng a b
    have r2 := h1.rng b d
    have r3 := h1.rng a d
    repeat' split
    all_goals intro g1 g2
    all_goals
      have t1' := t1 (by omega) (by omega)
      omega
/-- By a grade first; then, within one grade, by that grade's own way. -/
theorem Pre.graded {α : Type} {k : α → Int} {c : Int → α → α → Int} (h : ∀ i, Pre (c i)) : Pre (fun x y => if k x ≠ k y then cI (k x) (k y) else c (k x) x y) := by
  refine ⟨fun a b => ?_, fun a b => ?_, fun a b d => ?_⟩
  · split
    · exact pre_cI.rng _ _
    · exact (h _).rng a b
  · by_cases e : k a = k b
    · rw [if_neg (by simpa using e.symm), if_neg (by simpa using e), e]; exact (h _).anti a b
    · rw [if_pos (Ne.symm e), if_pos e]; exact pre_cI.anti _ _
  · by_cases e1 : k a = k b
    · rw [if_neg (by simpa using e1)]
      by_cases e2 : k b = k d
      · rw [if_neg (by simpa using e2), if_neg (by rw [e1, e2]; simp), e1]; exact (h _).trans a b d
      · rw [if_pos e2, if_pos (by rw [e1]; exact e2), e1]
        intro g1 g2
        have r := pre_cI.rng (k b) (k d)
        have n : cI (k b) (k d) ≠ 0 := by unfold cI; split <;> (try split) <;> omega
        omega
    · rw [if_pos e1]
      have n1 : cI (k a) (k b) ≠ 0 := by unfold cI; split <;> (try split) <;> omega
      by_cases e2 : k b = k d
      · rw [if_neg (by simpa using e2), if_pos (by rw [← e2]; exact e1), ← e2]
        intro g1 g2
        omega
      · rw [if_pos e2]
        have n2 : cI (k b) (k d) ≠ 0 := by unfold cI; split <;> (try split) <;> omega
        intro g1 g2
        have l1 : k a < k b := by unfold cI at g1 n1; split at g1 <;> (try split at g1) <;> omega
        have l2 : k b < k d := by unfold cI at g2 n2; split at g2 <;> (try split at g2) <;> omega
        have e3 : cI (k a) (k d) = -1 := by unfold cI; rw [if_pos (by omega)]
        rw [if_pos (by omega), e3]
        omega
theorem cb_anti : ∀ a b : List UInt8, Lib.compareBytes b a = - Lib.compareBytes a b
  | [], [] => rfl
  | [], _ :: _ => rfl
  | _ :: _, [] => rfl
  | a :: x, b :: y => by
    have ih := cb_anti x y
    unfold Lib.compareBytes
    by_cases h1 : a < b
    · have h2 : ¬ b < a := UInt8.lt_asymm h1
      simp only [h1, h2, if_true, if_false]; rfl
    · by_cases h2 : b < a
      · simp only [h1, h2, if_true, if_false]
      · simp only [h1, h2, if_false]; exact ih
theorem cb_rng : ∀ a b : List UInt8, Lib.compareBytes a b = -1 ∨ Lib.compareBytes a b = 0 ∨ Lib.compareBytes a b = 1
  | [], [] => by simp [Lib.compareBytes]
  | [], _ :: _ => by simp [Lib.compareBytes]
  | _ :: _, [] => by simp [Lib.compareBytes]
  | a :: x, b :: y => by
    have ih := cb_rng x y
    unfold Lib.compareBytes
    split
    · simp
    · split
      · simp
      · exact ih
theorem cb_trans : ∀ a b d : List UInt8, Lib.compareBytes a b ≤ 0 → Lib.compareBytes b d ≤ 0 → Lib.compareBytes a d ≤ 0 ∧ (Lib.compareBytes a d = 0 ↔ Lib.compareBytes a b = 0 ∧ Lib.compareBytes b d = 0)
  | [], [], [] => by simp [Lib.compareBytes]
  | [], [], _ :: _ => by simp [Lib.compareBytes]
  | [], _ :: _, [] => by simp [Lib.compareBytes]
  | [], _ :: _, _ :: _ => by simp [Lib.compareBytes]
  | _ :: _, [], [] => by simp [Lib.compareBytes]
  | _ :: _, [], _ :: _ => by simp [Lib.compareBytes]
  | _ :: _, _ :: _, [] => by simp [Lib.compareBytes]
  | a :: x, b :: y, d :: z => by
    have ih := cb_trans x y z
    have r1 := cb_rng x y
    have r2 := cb_rng y z
    unfold Lib.compareBytes
    simp only [UInt8.lt_iff_toNat_lt]
    generalize a.toNat = A at *
    generalize b.toNat = B at *
    generalize d.toNat = D at *
    intro g1 g2
    by_cases h1 : A < B
    · rw [if_pos h1] at g1 ⊢
      by_cases h2 : B < D
      · rw [if_pos h2] at g2 ⊢; rw [if_pos (by omega)]; omega
      · rw [if_neg h2] at g2 ⊢
        by_cases h3 : D < B
        · rw [if_pos h3] at g2; omega
        · rw [if_neg h3] at g2 ⊢; rw [if_pos (by omega)]; omega
    · rw [if_neg h1] at g1 ⊢
      by_cases h3 : B < A
      · rw [if_pos h3] at g1; omega
      · rw [if_neg h3] at g1 ⊢
        have e : A = B := by omega
        subst e
        by_cases h2 : A < D
        · rw [if_pos h2] at g2 ⊢; omega
        · by_cases h4 : D < A
          · rw [if_neg h2, if_pos h4] at g2; omega
          · simp only [h2, h4, if_false] at g2 ⊢; exact ih g1 g2
theorem pre_cb : Pre Lib.compareBytes := ⟨cb_rng, fun a b => cb_anti a b, cb_trans⟩
def gF (a : Nat) : Int := if isN a = true then -36893488147419103232 else fkey a
theorem cF_gF (a b : Nat) : cF a b = cI (gF a) (gF b) := by
  have f : ∀ a, -36893488147419103232 < fkey a := by
    intro a; unfold fkey; split <;> omega
  have fa := f a
  have fb := f b
  unfold cF gF
  by_cases ha : isN a = true <;> by_cases hb : isN b = true
  · rw [if_pos ha, if_pos hb, if_pos ha, if_pos hb]; unfold cI; simp
  · rw [if_pos ha, if_neg hb, if_pos ha, if_neg hb]; unfold cI; rw [if_pos fb]
  · rw [if_neg ha, if_pos hb, if_neg ha, if_pos hb]; unfold cI; rw [if_neg (by omega), if_pos fa]
  · rw [if_neg ha, if_neg hb, if_neg ha, if_neg hb]
theorem pre_cF : Pre cF := by
  have h := pre_cI.pull gF
  have e : cF = fun x y => cI (gF x) (gF y) := by funext a b; exact cF_gF a b
  rw [e]; exact h
/-- The way of one grade. -/
def own (i : Int) (a b : List UInt8) : Int :=
  if i = 1 then cI (numL a) (numL b) else if i = 2 then cP (reL a) (imL a) (reL b) (imL b) else Lib.compareBytes a b
theorem pre_own (i : Int) : Pre (own i) := by
  by_cases h1 : i = 1
  · have e : own i = fun a b => cI (numL a) (numL b) := by funext a b; unfold own; rw [if_pos h1]
    rw [e]; exact pre_cI.pull numL
  · by_cases h2 : i = 2
    · have e : own i = fun a b => if cF (reL a) (reL b) = 0 then cF (imL a) (imL b) else cF (reL a) (reL b) := by
        funext a b; unfold own; rw [if_neg h1, if_pos h2]; rfl
      rw [e]; exact (pre_cF.pull reL).lex (pre_cF.pull imL)
    · have e : own i = Lib.compareBytes := by funext a b; unfold own; rw [if_neg h1, if_neg h2]
      rw [e]; exact pre_cb
theorem pre_ordL : Pre ordL := by
  have e : ordL = fun a b => if (kd a : Int) ≠ (kd b : Int) then cI (kd a) (kd b) else own (kd a) a b := by
    funext a b
    unfold ordL own
    have h0 : kd a ≠ kd b ↔ (kd a : Int) ≠ (kd b : Int) := by omega
    have h1 : kd a = 1 ↔ (kd a : Int) = 1 := by omega
    have h2 : kd a = 2 ↔ (kd a : Int) = 2 := by omega
    simp only [h0, h1, h2]
  rw [e]
  exact Pre.graded (k := fun l => (kd l : Int)) pre_own
end Go.Proofs.Ytbdnhccjlggpkaa

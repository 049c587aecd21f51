import Derived.Test.YtbdnhccjlggpkaaR
namespace Go.Proofs.Ytbdnhccjlggpkaa
open Go.RowKit
set_option maxHeartbeats 1600000 in
theorem refEnc_0 (ao : Option Addr) (c : Nat) (w : World) :
    Calls Try.prog 11 #[.slice ao 0 c] w fun e w' => e = .returned (.tuple #[.slice none 0 0, .int .i64 0, .int .i64 0]) ∧ w' = w := by
  go_enter Try.func11, Try.ntmps11
  go_wp2
  refine wp_loop_rounds 1 ?_
  rw [rounds_succ]
  go_wp2
  refine wp_loop_rounds 1 ?_
  rw [rounds_succ]
  go_wp2
  refine wp_loop_rounds 1 ?_
  rw [rounds_succ]
  go_wp2
  go_ret3
  exact ⟨rfl, rfl⟩
theorem refEncode_any {w : World} {B : Nat} {v : Value} {n : Nat} {rs : List RecB} (hB : B ≤ w.heap.size) (hn : rs.length = n) (hmax : n ≤ 1048576) (h : Rd w B v n (recCells rs)) :
    Calls Try.prog 11 #[v] w fun e w' => ∃ v', e = .returned (.tuple #[v', .int .i64 (encE rs).1, .int .i64 (encE rs).2]) ∧ w'.ownsRow w.heap.size 9 1 v' (encB rs).length (strs (encB rs)) ∧ Below w.heap.size w w' := by
  obtain ⟨ao, cap, rfl, hcap, h0 | ⟨b, off, rfl, hb, hc⟩⟩ := h
  · subst h0
    obtain rfl : rs = [] := List.eq_nil_of_length_eq_zero hn
    refine (refEnc_0 ao cap w).mono ?_
    rintro e w' ⟨rfl, rfl⟩
    exact ⟨_, rfl, World.ownsRow_nil _ _ _ _, Below.refl _ _⟩
  · cases h1 : rs.findIdx? noKey with
    | some i =>
      have e1 : encE rs = (1, (i : Int)) := by unfold encE; rw [h1]
      have e2 : encB rs = [] := by unfold encB; rw [h1]
      rw [e1, e2]
      obtain ⟨hi, hp, hq⟩ := List.findIdx?_eq_some_iff_getElem.1 h1
      refine (refEnc_e1 b off cap n i rs w hn hmax hc (by omega) (fun q hlt hql => by have := hq q hlt; simpa using this) (fun _ => hp)).mono ?_
      rintro e w' ⟨rfl, rfl⟩
      exact ⟨_, rfl, World.ownsRow_nil _ _ _ _, Below.refl _ _⟩
    | none =>
      have hno : ∀ q (hq : q < rs.length), noKey rs[q] = false := fun q hq => by
        rw [List.findIdx?_eq_none_iff] at h1
        simpa using h1 rs[q] (List.getElem_mem hq)
      cases h2 : rs.findIdx? longV with
      | some i =>
        have e1 : encE rs = (2, (i : Int)) := by unfold encE; rw [h1, h2]
        have e2 : encB rs = [] := by unfold encB; rw [h1, h2]
        rw [e1, e2]
        obtain ⟨hi, hp, hq⟩ := List.findIdx?_eq_some_iff_getElem.1 h2
        refine (refEnc_e2 b off cap n i rs w hn hmax hc (by omega) hno (fun q hlt hql => by have := hq q hlt; unfold longV at this; simpa using this) (fun _ => by unfold longV at hp; simpa using hp)).mono ?_
        rintro e w' ⟨rfl, rfl⟩
        exact ⟨_, rfl, World.ownsRow_nil _ _ _ _, Below.refl _ _⟩
      | none =>
        have e1 : encE rs = (0, 0) := by unfold encE; rw [h1, h2]
        have e2 : encB rs = blocksOf (textOf rs) := by unfold encB; rw [h1, h2]
        rw [e1, e2]
        exact refEnc_ok b off cap n rs w hn hmax (by omega) hc (ok_of_none h1 h2)
end Go.Proofs.Ytbdnhccjlggpkaa

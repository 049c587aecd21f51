import Derived.Test.YtbdnhccjlggpkaaDec
namespace Go.Proofs.Ytbdnhccjlggpkaa
open Go.RowKit
set_option maxHeartbeats 1600000 in
theorem dec_0 (ao : Option Addr) (c : Nat) (w : World) :
    Calls Try.prog 15 #[.slice ao 0 c] w fun e w' => DPost w [] e w' := by
  go_enter Try.func15, Try.ntmps15
  go_wp2_with fail
  refine wp_loop_rounds 1 ?_
  rw [rounds_succ]
  go_wp2_with fail
  have hrr := readRecords_any (w := w) (B := 0) (sv := .slice none 0 0) (ps := []) (Nat.zero_le _) rfl (by simp) ⟨none, 0, rfl, Nat.le_refl _, Or.inl rfl⟩
  have ea : ans (lists []) = some [] := by
    have := ans_good (ss := []) (fun q hq => absurd hq (Nat.not_lt_zero _))
    exact this
  rw [ea] at hrr
  refine hrr.mono ?_
  rintro e w4 ⟨v4, rfl, hown4, hb4⟩
  obtain ⟨av, cv, rfl⟩ : ∃ a c, v4 = .slice a 0 c := by
    rcases hown4.2 with ⟨rfl, h⟩ | ⟨g, cap, cur, rfl, _⟩
    · exact ⟨none, 0, rfl⟩
    · exact ⟨_, _, rfl⟩
  go_wp2_with fail
  go_ret3
  exact ⟨_, rfl, hown4, hb4⟩
theorem decode_any {w : World} {B : Nat} {v : Value} {n : Nat} {ss : List ByteArray} (hB : B ≤ w.heap.size) (hn : ss.length = n) (hmax : n ≤ 1048576) (hsz : ∀ s ∈ ss, s.size ≤ 1048576) (h : Rd w B v n (strs ss)) :
    Calls Try.prog 15 #[v] w fun e w' => DPost w ss e w' := by
  obtain ⟨ao, cap, rfl, hcap, h0 | ⟨b, off, rfl, hb, hc⟩⟩ := h
  · subst h0
    obtain rfl : ss = [] := List.eq_nil_of_length_eq_zero hn
    exact dec_0 ao cap w
  · cases h1 : ss.findIdx? bad with
    | some i =>
      obtain ⟨hi, hp, hq⟩ := List.findIdx?_eq_some_iff_getElem.1 h1
      have e1 : decA ss = ([], 3, (i : Int)) := by unfold decA; rw [h1]
      refine (dec_e3 b off cap n i ss w hn hmax (by omega) hsz hc (by omega) (fun q hlt hql => by have := hq q hlt; simpa using this) (fun _ => hp)).mono ?_
      rintro e w' ⟨rfl, hb'⟩
      unfold DPost
      rw [e1]
      exact ⟨_, rfl, World.ownsRow_nil _ _ _ _, hb'⟩
    | none =>
      have hno : ∀ q (hq : q < ss.length), bad ss[q] = false := fun q hq => by
        rw [List.findIdx?_eq_none_iff] at h1
        simpa using h1 ss[q] (List.getElem_mem hq)
      exact dec_n b off cap n ss w hn hmax (by omega) hsz hc hno
end Go.Proofs.Ytbdnhccjlggpkaa

import Derived.Test.YtbdnhccjlggpkaaH
import Derived.Deep.RegionHeld3
import Derived.Deep.AppendLies
import Derived.WalkSmall
namespace Go.Proofs.Ytbdnhccjlggpkaa
open Go.RowKit
/-- A slice value of n elements, whose cells are xs, in blocks below B. -/
def Rd (w : World) (B : Nat) (v : Value) (n : Nat) (xs : List Value) : Prop :=
  ∃ ao cap, v = .slice ao n cap ∧ n ≤ cap ∧ (n = 0 ∨ ∃ b off, ao = some ⟨b, off, none⟩ ∧ b < B ∧ ∀ j u, xs[j]? = some u → w.cell? ⟨b, off + j, none⟩ = some u)
theorem Rd.below {w w' : World} {B : Nat} {v : Value} {n : Nat} {xs : List Value} (h : Rd w B v n xs) (hb : Below B w w') : Rd w' B v n xs := by
  obtain ⟨ao, cap, rfl, hc, h0 | ⟨b, off, rfl, hlt, hcell⟩⟩ := h
  · exact ⟨ao, cap, rfl, hc, Or.inl h0⟩
  · exact ⟨_, cap, rfl, hc, Or.inr ⟨b, off, rfl, hlt, fun j u hj => (hb.cell (p := ⟨b, off + j, none⟩) hlt).trans (hcell j u hj)⟩⟩
theorem Rd.mono {w : World} {B B' : Nat} {v : Value} {n : Nat} {xs : List Value} (h : Rd w B v n xs) (hb : B ≤ B') : Rd w B' v n xs := by
  obtain ⟨ao, cap, rfl, hc, h0 | ⟨b, off, rfl, hlt, hcell⟩⟩ := h
  · exact ⟨ao, cap, rfl, hc, Or.inl h0⟩
  · exact ⟨_, cap, rfl, hc, Or.inr ⟨b, off, rfl, by omega, hcell⟩⟩
theorem rd_of_owns {w : World} {base : Nat} {e : TypeId} {size : Nat} {v : Value} {n : Nat} {xs : List Value} (h : w.ownsRow base e size v n xs) : Rd w w.heap.size v n xs := by
  rcases h.2 with ⟨rfl, rfl⟩ | ⟨g, cap, cur, rfl, hb, hh, hn, _, _, _⟩
  · exact ⟨none, 0, rfl, Nat.le_refl _, Or.inl rfl⟩
  · refine ⟨_, cap, rfl, hn, Or.inr ⟨g, 0, rfl, (h.lt g rfl).2, fun j u hj => ?_⟩⟩
    have := h.cells (g := g) rfl j u hj
    have e : (⟨g, 0, none⟩ : Addr).add j = ⟨g, 0 + j, none⟩ := by unfold Addr.add; split <;> simp_all
    rw [← e]; exact this
theorem Rd.drewN {w : World} {B : Nat} {v : Value} {n : Nat} {xs : List Value} (h : Rd w B v n xs) (k : Nat) : Rd (w.drewN k) B v n xs := h
theorem below_drewN' (B : Nat) (w : World) (k : Nat) : Below B w (w.drewN k) := ⟨rfl, rfl, rfl, Nat.le_refl _, fun _ _ => rfl⟩
def strs (ss : List ByteArray) : List Value := ss.map .string
theorem strs_get (ss : List ByteArray) (k : Nat) (h : k < ss.length) : (strs ss)[k]? = some (.string ss[k]) := by
  unfold strs; rw [List.getElem?_map, List.getElem?_eq_getElem h]; rfl
set_option maxHeartbeats 400000 in
theorem texts_0 (a b : Option Addr) (c d : Nat) (w : World) :
    Calls Try.prog 12 #[.slice a 0 c, .slice b 0 d] w fun e w' => e = .returned (.bool true) ∧ ∃ k, w' = w.drewN k := by
  go_enter Try.func12, Try.ntmps12
  go_wp2
  refine wp_loop_rounds 1 ?_
  rw [rounds_succ]
  go_wp2
  go_ret
  exact ⟨rfl, 0, rfl⟩
set_option maxHeartbeats 400000 in
theorem texts_n (b off c b2 off2 c2 n : Nat) (ss : List ByteArray) (w : World) (hn : ss.length = n) (hmax : n ≤ 1048576)
    (h1 : ∀ j u, (strs ss)[j]? = some u → w.cell? ⟨b, off + j, none⟩ = some u) (h2 : ∀ j u, (strs ss)[j]? = some u → w.cell? ⟨b2, off2 + j, none⟩ = some u) :
    Calls Try.prog 12 #[.slice (some ⟨b, off, none⟩) n c, .slice (some ⟨b2, off2, none⟩) n c2] w fun e w' => e = .returned (.bool true) ∧ ∃ k, w' = w.drewN k := by
  have H1 : Hid (∀ j u, (strs ss)[j]? = some u → w.cell? ⟨b, off + j, none⟩ = some u) := h1
  have H2 : Hid (∀ j u, (strs ss)[j]? = some u → w.cell? ⟨b2, off2 + j, none⟩ = some u) := h2
  have HN : Hid (ss.length = n) := hn
  clear h1 h2 hn
  go_enter Try.func12, Try.ntmps12
  go_wp2
  go_loopw [5] (fun i wr => ∃ k m : Nat, k ≤ n ∧ i = .int .i64 k ∧ wr = w.drewN m) (fun i _ => n - (intOf i).toNat)
  case atStart => exact ⟨0, 0, Nat.zero_le _, rfl, rfl⟩
  case round =>
    obtain ⟨k, m, hk, rfl, rfl⟩ := hrel
    by_cases hlt : k < n
    · have hl : k < ss.length := by have := HN.out; omega
      have c1 := H1.out k _ (strs_get ss k hl)
      have c2 := H2.out k _ (strs_get ss k hl)
      generalize ss[k] = s at c1 c2
      clear hl
      have hi : (k : Int) < (n : Int) := by omega
      go_wp2_with fail
      go_quiet (fail)
      go_wp2
      go_roundw
      case rel => exact ⟨k + 1, _, by omega, by go_num, rfl⟩
      case measure => simp [intOf]; omega
    · go_wp2
      go_ret
      exact ⟨rfl, _, rfl⟩
theorem texts_eq {w : World} {B B2 : Nat} {v v2 : Value} {n : Nat} {ss : List ByteArray} (hn : ss.length = n) (hmax : n ≤ 1048576) (h1 : Rd w B v n (strs ss)) (h2 : Rd w B2 v2 n (strs ss)) :
    Calls Try.prog 12 #[v, v2] w fun e w' => e = .returned (.bool true) ∧ ∃ k, w' = w.drewN k := by
  obtain ⟨ao, cap, rfl, _, h0 | ⟨b, off, rfl, _, hc⟩⟩ := h1
  · obtain ⟨ao2, cap2, rfl, _, _⟩ := h2
    subst h0
    exact texts_0 _ _ _ _ w
  · obtain ⟨ao2, cap2, rfl, _, h0 | ⟨b2, off2, rfl, _, hc2⟩⟩ := h2
    · subst h0
      exact texts_0 _ _ _ _ w
    · exact texts_n b off cap b2 off2 cap2 n ss w hn hmax hc hc2
def recCells : List (ByteArray × ByteArray) → List Value
  | [] => []
  | r :: rs => .string r.1 :: .string r.2 :: recCells rs
theorem recCells_length (rs : List (ByteArray × ByteArray)) : (recCells rs).length = rs.length * 2 := by
  induction rs with
  | nil => rfl
  | cons r rs ih => simp only [recCells, List.length_cons, ih]; omega
theorem recCells_0 (rs : List (ByteArray × ByteArray)) : ∀ (k : Nat) (h : k < rs.length), (recCells rs)[k * 2]? = some (.string rs[k].1) := by
  induction rs with
  | nil => intro k h; cases h
  | cons r rs ih =>
    intro k h
    cases k with
    | zero => rfl
    | succ k =>
      have e : (k + 1) * 2 = k * 2 + 1 + 1 := by omega
      rw [e]
      simp only [recCells, List.getElem?_cons_succ, List.getElem_cons_succ]
      exact ih k (by simpa using h)
theorem recCells_1 (rs : List (ByteArray × ByteArray)) : ∀ (k : Nat) (h : k < rs.length), (recCells rs)[k * 2 + 1]? = some (.string rs[k].2) := by
  induction rs with
  | nil => intro k h; cases h
  | cons r rs ih =>
    intro k h
    cases k with
    | zero => rfl
    | succ k =>
      have e : (k + 1) * 2 + 1 = k * 2 + 1 + 1 + 1 := by omega
      rw [e]
      simp only [recCells, List.getElem?_cons_succ, List.getElem_cons_succ]
      exact ih k (by simpa using h)
theorem recCells_append (xs ys : List (ByteArray × ByteArray)) : recCells (xs ++ ys) = recCells xs ++ recCells ys := by
  induction xs with
  | nil => rfl
  | cons r rs ih => simp only [List.cons_append, recCells, ih]
set_option maxHeartbeats 400000 in
theorem same_0 (a b : Option Addr) (c d : Nat) (w : World) :
    Calls Try.prog 13 #[.slice a 0 c, .slice b 0 d] w fun e w' => e = .returned (.bool true) ∧ ∃ k, w' = w.drewN k := by
  go_enter Try.func13, Try.ntmps13
  go_wp2
  refine wp_loop_rounds 1 ?_
  rw [rounds_succ]
  go_wp2
  go_ret
  exact ⟨rfl, 0, rfl⟩
theorem at_2 {w : World} {b off : Nat} {rs : List (ByteArray × ByteArray)} (h : ∀ j u, (recCells rs)[j]? = some u → w.cell? ⟨b, off + j, none⟩ = some u) (k : Nat) (hk : k < rs.length) :
    w.cell? ⟨b, off + k * 2, none⟩ = some (.string rs[k].1) ∧ w.cell? ⟨b, off + k * 2 + 1, none⟩ = some (.string rs[k].2) :=
  ⟨h _ _ (recCells_0 rs k hk), by rw [Nat.add_assoc]; exact h _ _ (recCells_1 rs k hk)⟩
set_option maxHeartbeats 400000 in
theorem same_n (b off c b2 off2 c2 n : Nat) (rs : List (ByteArray × ByteArray)) (w : World) (hn : rs.length = n) (hmax : n ≤ 1048576)
    (h1 : ∀ j u, (recCells rs)[j]? = some u → w.cell? ⟨b, off + j, none⟩ = some u) (h2 : ∀ j u, (recCells rs)[j]? = some u → w.cell? ⟨b2, off2 + j, none⟩ = some u) :
    Calls Try.prog 13 #[.slice (some ⟨b, off, none⟩) n c, .slice (some ⟨b2, off2, none⟩) n c2] w fun e w' => e = .returned (.bool true) ∧ ∃ k, w' = w.drewN k := by
  have H1 : Hid (∀ j u, (recCells rs)[j]? = some u → w.cell? ⟨b, off + j, none⟩ = some u) := h1
  have H2 : Hid (∀ j u, (recCells rs)[j]? = some u → w.cell? ⟨b2, off2 + j, none⟩ = some u) := h2
  have HN : Hid (rs.length = n) := hn
  clear h1 h2 hn
  go_enter Try.func13, Try.ntmps13
  go_wp2
  go_loopw [5] (fun i wr => ∃ k m : Nat, k ≤ n ∧ i = .int .i64 k ∧ wr = w.drewN m) (fun i _ => n - (intOf i).toNat)
  case atStart => exact ⟨0, 0, Nat.zero_le _, rfl, rfl⟩
  case round =>
    obtain ⟨k, m, hk, rfl, rfl⟩ := hrel
    by_cases hlt : k < n
    · have hl : k < rs.length := by have := HN.out; omega
      obtain ⟨c1, d1⟩ := at_2 H1.out k hl
      obtain ⟨c2, d2⟩ := at_2 H2.out k hl
      generalize rs[k].1 = s at c1 c2
      generalize rs[k].2 = t at d1 d2
      clear hl
      have hi : (k : Int) < (n : Int) := by omega
      have hs : (!(s.toList == s.toList)) = false := by simp
      go_wp2_with fail
      go_quiet (fail)
      go_wp2
      go_roundw
      case rel => exact ⟨k + 1, _, by omega, by go_num, rfl⟩
      case measure => simp [intOf]; omega
    · go_wp2
      go_ret
      exact ⟨rfl, _, rfl⟩
theorem same_eq {w : World} {B B2 : Nat} {v v2 : Value} {n : Nat} {rs : List (ByteArray × ByteArray)} (hn : rs.length = n) (hmax : n ≤ 1048576) (h1 : Rd w B v n (recCells rs)) (h2 : Rd w B2 v2 n (recCells rs)) :
    Calls Try.prog 13 #[v, v2] w fun e w' => e = .returned (.bool true) ∧ ∃ k, w' = w.drewN k := by
  obtain ⟨ao, cap, rfl, _, h0 | ⟨b, off, rfl, _, hc⟩⟩ := h1
  · obtain ⟨ao2, cap2, rfl, _, _⟩ := h2
    subst h0
    exact same_0 _ _ _ _ w
  · obtain ⟨ao2, cap2, rfl, _, h0 | ⟨b2, off2, rfl, _, hc2⟩⟩ := h2
    · subst h0
      exact same_0 _ _ _ _ w
    · exact same_n b off cap b2 off2 cap2 n rs w hn hmax hc hc2
end Go.Proofs.Ytbdnhccjlggpkaa

import Derived.Test.YtbdnhccjlggpkaaJ
namespace Go.Proofs.Ytbdnhccjlggpkaa
open Go.RowKit
def noKey (r : ByteArray × ByteArray) : Bool := !isKeyL r.1.data.toList
def longV (r : ByteArray × ByteArray) : Bool := decide (100 < r.2.size)
def idxV (o : Option Nat) : Int := match o with | some i => i | none => -1
theorem findIdx_hit {α : Type} (p : α → Bool) (l : List α) (k : Nat) (hk : k < l.length) (h : ∀ j (hj : j < k), p (l[j]'(by omega)) = false) (hp : p l[k] = true) : l.findIdx? p = some k := by
  rw [List.findIdx?_eq_some_iff_getElem]
  exact ⟨hk, hp, fun j hj => by simp [h j hj]⟩
theorem findIdx_miss {α : Type} (p : α → Bool) (l : List α) (h : ∀ j (hj : j < l.length), p l[j] = false) : l.findIdx? p = none := by
  rw [List.findIdx?_eq_none_iff]
  intro x hx
  obtain ⟨j, hj, rfl⟩ := List.getElem_of_mem hx
  exact h j hj
set_option maxHeartbeats 800000 in
theorem idxKey_n (b off c n : Nat) (rs : List (ByteArray × ByteArray)) (w : World) (hn : rs.length = n) (hmax : n ≤ 1048576) (hb : b < w.heap.size)
    (h1 : ∀ j u, (recCells rs)[j]? = some u → w.cell? ⟨b, off + j, none⟩ = some u) :
    Calls Try.prog 25 #[.slice (some ⟨b, off, none⟩) n c, .func (.func 26) #[] #[]] w fun e w' => e = .returned (.int .i64 (idxV (rs.findIdx? noKey))) ∧ Below w.heap.size w w' := by
  have H1 : Hid (∀ j u, (recCells rs)[j]? = some u → w.cell? ⟨b, off + j, none⟩ = some u) := h1
  have HN : Hid (rs.length = n) := hn
  clear h1 hn
  go_enter Try.func25, Try.ntmps25
  go_wp2
  go_loopw [8] (fun i wr => ∃ k : Nat, k ≤ n ∧ i = .int .i64 k ∧ Hid (∀ j (hj : j < k) (hl : j < rs.length), noKey rs[j] = false) ∧ Below w.heap.size w wr) (fun i _ => n - (intOf i).toNat)
  case atStart => exact ⟨0, Nat.zero_le _, rfl, fun j hj => by omega, Below.refl _ _⟩
  case round =>
    obtain ⟨k, hk, rfl, hno, hbel⟩ := hrel
    by_cases hlt : k < n
    · have hl : k < rs.length := by have := HN.out; omega
      obtain ⟨c1, d1⟩ := at_2 H1.out k hl
      have c1' := (hbel.cell (p := ⟨b, off + k * 2, none⟩) hb).trans c1
      have d1' := (hbel.cell (p := ⟨b, off + k * 2 + 1, none⟩) hb).trans d1
      clear c1 d1
      have hi : (k : Int) < (n : Int) := by omega
      have hsz := hbel.size
      cases hq : noKey rs[k]
      · have HQ : Hid (noKey rs[k] = false) := hq
        unfold noKey at hq
        go_wp2_with fail
        refine (hasNoKey_any _ _ _).mono ?_; rintro e w1 ⟨rfl, hb1⟩
        have hb2 : Below w.heap.size w w1 := hbel.trans (hb1.mono hsz)
        clear hb1 hbel c1' d1'
        go_wp2_with fail
        go_roundw
        case rel =>
          refine ⟨k + 1, by omega, by go_num, ?_, hb2⟩
          intro j hj hl2
          by_cases e : j = k
          · subst e; exact HQ.out
          · exact hno.out j (by omega) hl2
        case measure => simp [intOf]; omega
      · have HF : Hid (rs.findIdx? noKey = some k) := findIdx_hit _ _ k hl (fun j hj => hno.out j hj (by omega)) hq
        unfold noKey at hq
        go_wp2_with fail
        refine (hasNoKey_any _ _ _).mono ?_; rintro e w1 ⟨rfl, hb1⟩
        have hb2 : Below w.heap.size w w1 := hbel.trans (hb1.mono hsz)
        clear hb1 hbel c1' d1'
        go_wp2_with fail
        go_ret
        exact ⟨ret_int (by rw [HF.out]; rfl), hb2⟩
    · have HF : Hid (rs.findIdx? noKey = none) := findIdx_miss _ _ (fun j hj => hno.out j (by have := HN.out; omega) hj)
      go_wp2
      go_ret
      exact ⟨ret_int (by rw [HF.out]; rfl), hbel⟩
set_option maxHeartbeats 800000 in
theorem idxVal_n (b off c n : Nat) (rs : List (ByteArray × ByteArray)) (w : World) (hn : rs.length = n) (hmax : n ≤ 1048576) (hb : b < w.heap.size)
    (h1 : ∀ j u, (recCells rs)[j]? = some u → w.cell? ⟨b, off + j, none⟩ = some u) :
    Calls Try.prog 25 #[.slice (some ⟨b, off, none⟩) n c, .func (.func 27) #[] #[]] w fun e w' => e = .returned (.int .i64 (idxV (rs.findIdx? longV))) ∧ Below w.heap.size w w' := by
  have H1 : Hid (∀ j u, (recCells rs)[j]? = some u → w.cell? ⟨b, off + j, none⟩ = some u) := h1
  have HN : Hid (rs.length = n) := hn
  clear h1 hn
  go_enter Try.func25, Try.ntmps25
  go_wp2
  go_loopw [8] (fun i wr => ∃ k : Nat, k ≤ n ∧ i = .int .i64 k ∧ Hid (∀ j (hj : j < k) (hl : j < rs.length), longV rs[j] = false) ∧ Below w.heap.size w wr) (fun i _ => n - (intOf i).toNat)
  case atStart => exact ⟨0, Nat.zero_le _, rfl, fun j hj => by omega, Below.refl _ _⟩
  case round =>
    obtain ⟨k, hk, rfl, hno, hbel⟩ := hrel
    by_cases hlt : k < n
    · have hl : k < rs.length := by have := HN.out; omega
      obtain ⟨c1, d1⟩ := at_2 H1.out k hl
      have c1' := (hbel.cell (p := ⟨b, off + k * 2, none⟩) hb).trans c1
      have d1' := (hbel.cell (p := ⟨b, off + k * 2 + 1, none⟩) hb).trans d1
      clear c1 d1
      have hi : (k : Int) < (n : Int) := by omega
      have hsz := hbel.size
      cases hq : longV rs[k]
      · have HQ : Hid (longV rs[k] = false) := hq
        unfold longV at hq
        go_wp2_with fail
        refine (hasLong_any _ _ _).mono ?_; rintro e w1 ⟨rfl, hb1⟩
        have hb2 : Below w.heap.size w w1 := hbel.trans (hb1.mono hsz)
        clear hb1 hbel c1' d1'
        go_wp2_with fail
        go_roundw
        case rel =>
          refine ⟨k + 1, by omega, by go_num, ?_, hb2⟩
          intro j hj hl2
          by_cases e : j = k
          · subst e; exact HQ.out
          · exact hno.out j (by omega) hl2
        case measure => simp [intOf]; omega
      · have HF : Hid (rs.findIdx? longV = some k) := findIdx_hit _ _ k hl (fun j hj => hno.out j hj (by omega)) hq
        unfold longV at hq
        go_wp2_with fail
        refine (hasLong_any _ _ _).mono ?_; rintro e w1 ⟨rfl, hb1⟩
        have hb2 : Below w.heap.size w w1 := hbel.trans (hb1.mono hsz)
        clear hb1 hbel c1' d1'
        go_wp2_with fail
        go_ret
        exact ⟨ret_int (by rw [HF.out]; rfl), hb2⟩
    · have HF : Hid (rs.findIdx? longV = none) := findIdx_miss _ _ (fun j hj => hno.out j (by have := HN.out; omega) hj)
      go_wp2
      go_ret
      exact ⟨ret_int (by rw [HF.out]; rfl), hbel⟩
set_option maxHeartbeats 400000 in
theorem idx_0 (a : Option Addr) (c : Nat) (f : Value) (w : World) :
    Calls Try.prog 25 #[.slice a 0 c, f] w fun e w' => e = .returned (.int .i64 (-1)) ∧ Below w.heap.size w w' := by
  go_enter Try.func25, Try.ntmps25
  go_wp2
  refine wp_loop_rounds 1 ?_
  rw [rounds_succ]
  go_wp2
  go_ret
  exact ⟨rfl, Below.refl _ _⟩
theorem idxKey_any {w : World} {B : Nat} {v : Value} {n : Nat} {rs : List (ByteArray × ByteArray)} (hB : B ≤ w.heap.size) (hn : rs.length = n) (hmax : n ≤ 1048576) (h1 : Rd w B v n (recCells rs)) :
    Calls Try.prog 25 #[v, .func (.func 26) #[] #[]] w fun e w' => e = .returned (.int .i64 (idxV (rs.findIdx? noKey))) ∧ Below w.heap.size w w' := by
  obtain ⟨ao, cap, rfl, _, h0 | ⟨b, off, rfl, hb, hc⟩⟩ := h1
  · subst h0
    obtain rfl : rs = [] := List.eq_nil_of_length_eq_zero hn
    exact idx_0 _ _ _ w
  · exact idxKey_n b off cap n rs w hn hmax (by omega) hc
theorem idxVal_any {w : World} {B : Nat} {v : Value} {n : Nat} {rs : List (ByteArray × ByteArray)} (hB : B ≤ w.heap.size) (hn : rs.length = n) (hmax : n ≤ 1048576) (h1 : Rd w B v n (recCells rs)) :
    Calls Try.prog 25 #[v, .func (.func 27) #[] #[]] w fun e w' => e = .returned (.int .i64 (idxV (rs.findIdx? longV))) ∧ Below w.heap.size w w' := by
  obtain ⟨ao, cap, rfl, _, h0 | ⟨b, off, rfl, hb, hc⟩⟩ := h1
  · subst h0
    obtain rfl : rs = [] := List.eq_nil_of_length_eq_zero hn
    exact idx_0 _ _ _ w
  · exact idxVal_n b off cap n rs w hn hmax (by omega) hc
end Go.Proofs.Ytbdnhccjlggpkaa

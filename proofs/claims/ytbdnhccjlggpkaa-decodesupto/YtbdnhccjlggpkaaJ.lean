import Derived.Test.YtbdnhccjlggpkaaI
import Derived.Deep.DrawnRows
namespace Go.Proofs.Ytbdnhccjlggpkaa
open Go.RowKit
theorem info41 : (Try.prog.info? 41).map (fun i => (i.zero, i.size, i.bytes)) = some (some (.agg #[.string ByteArray.empty, .string ByteArray.empty]), 2, 32) := by kernel_rfl
set_option maxHeartbeats 400000 in
theorem num_any (x : Int) (w : World) : Calls Try.prog 14 #[.int .i64 x] w fun e w' => e = .returned (.int .i64 x) ∧ w' = w := by
  go_enter Try.func14, Try.ntmps14
  go_wp2
  go_ret
  exact ⟨rfl, rfl⟩
set_option maxHeartbeats 400000 in
theorem isKey_any (s : ByteArray) (w : World) : Calls Try.prog 41 #[.string s] w fun e w' => e = .returned (.bool (isKeyL s.data.toList)) ∧ ∃ n, w' = w.drewN n := by
  go_enter Try.func41, Try.ntmps41
  go_wp2_with fail
  refine (readKey_any _ _).mono ?_; rintro e w' ⟨rfl, n1, rfl⟩
  go_wp2_with fail
  go_ret
  exact ⟨rfl, _, rfl⟩
set_option maxHeartbeats 400000 in
theorem refIsKey_any (s : ByteArray) (w : World) : Calls Try.prog 30 #[.string s] w fun e w' => e = .returned (.bool (isKeyL s.data.toList)) ∧ w' = w := by
  go_enter Try.func30, Try.ntmps30
  go_wp2_with fail
  refine (refKind _ _).mono ?_; rintro e w' ⟨rfl, rfl⟩
  go_wp2_with fail
  go_ret
  refine ⟨?_, rfl⟩
  unfold isKeyL
  show Ending.returned (.bool _) = _
  congr 2
  rw [Bool.eq_iff_iff, bne_iff_ne, bne_iff_ne]
  omega
set_option maxHeartbeats 400000 in
theorem hasNoKey_any (k v : ByteArray) (w : World) : Calls Try.prog 26 #[.agg #[.string k, .string v]] w fun e w' => e = .returned (.bool (!isKeyL k.data.toList)) ∧ Below w.heap.size w w' := by
  go_enter Try.func26, Try.ntmps26
  go_wp2_with fail
  refine (isKey_any _ _).mono ?_; rintro e w' ⟨rfl, n1, rfl⟩
  go_wp2_with fail
  go_ret
  exact ⟨rfl, ((Below.refl _ _).alloc (Nat.le_refl _) _).trans (below_drewN' _ _ _)⟩
set_option maxHeartbeats 400000 in
theorem hasLong_any (k v : ByteArray) (w : World) : Calls Try.prog 27 #[.agg #[.string k, .string v]] w fun e w' => e = .returned (.bool (decide (100 < v.size))) ∧ Below w.heap.size w w' := by
  go_enter Try.func27, Try.ntmps27
  go_wp2_with fail
  go_ret
  refine ⟨?_, ((Below.refl _ _).alloc (Nat.le_refl _) _)⟩
  show Ending.returned (.bool _) = _
  congr 2
  exact decide_eq_decide.2 (by omega)
set_option maxRecDepth 100000 in
set_option maxHeartbeats 3200000 in
theorem records_n (b off c n : Nat) (rs : List (ByteArray × ByteArray)) (w : World) (hn : rs.length = n) (hmax : n ≤ 1048576) (hb : b < w.heap.size)
    (h1 : ∀ j u, (recCells rs)[j]? = some u → w.cell? ⟨b, off + j, none⟩ = some u) :
    Calls Try.prog 9 #[.slice (some ⟨b, off, none⟩) n c] w fun e w' => ∃ v, e = .returned v ∧ w'.ownsRow w.heap.size 41 2 v n (recCells rs) ∧ Below w.heap.size w w' := by
  obtain ⟨i0, hi0, hz0, hz1, hz2⟩ := info_parts info41
  have H1 : Hid (∀ j u, (recCells rs)[j]? = some u → w.cell? ⟨b, off + j, none⟩ = some u) := h1
  have HN : Hid (rs.length = n) := hn
  clear h1 hn
  go_enter Try.func9, Try.ntmps9
  go_wp2
  go_loopw [3, 4] (fun v i wr => ∃ k : Nat, k ≤ n ∧ i = .int .i64 k ∧ wr.ownsRow w.heap.size 41 2 v k (recCells (rs.take k)) ∧ Below w.heap.size w wr) (fun _ i _ => n - (intOf i).toNat)
  case atStart => exact ⟨0, Nat.zero_le _, rfl, World.ownsRow_nil _ _ _ _, Below.refl _ _⟩
  case round =>
    obtain ⟨k, hk, rfl, hown, hbel⟩ := hrel
    by_cases hlt : k < n
    · have hl : k < rs.length := by have := HN.out; omega
      obtain ⟨c1, d1⟩ := at_2 H1.out k hl
      have c1' := (hbel.cell (p := ⟨b, off + k * 2, none⟩) hb).trans c1
      have d1' := (hbel.cell (p := ⟨b, off + k * 2 + 1, none⟩) hb).trans d1
      have HT : Hid (recCells (rs.take (k + 1)) = recCells (rs.take k) ++ [.string rs[k].1, .string rs[k].2]) := by
        show _ = _
        rw [List.take_succ_eq_append_getElem hl, recCells_append]; rfl
      generalize rs[k].1 = s at c1 c1' HT
      generalize rs[k].2 = t at d1 d1' HT
      clear hl c1 d1
      have hi : (k : Int) < (n : Int) := by omega
      have hsz := hbel.size
      have hob := hown.lt
      go_wp2_with fail
      go_region_held3 (fun w' => w'.cell? ⟨b, off + k * 2, none⟩ = some (.string s) ∧ w'.cell? ⟨b, off + k * 2 + 1, none⟩ = some (.string t))
        (first
          | go_keep
          | (go_split_ands
             refine ⟨?_, ?_⟩
             · (rw [hgrow.cell_far _ (by simp; omega) (fun e => by have := (hob b e.symm).1; omega)]; assumption)
             · (rw [hgrow.cell_far _ (by simp; omega) (fun e => by have := (hob b e.symm).1; omega)]; assumption)))
        ((refine step_append_lies _ (by rfl) _ _ _ (by rfl) w.heap.size 41 i0 _ 2 32 Try.underlying26 hi0 hz0 hz1 hz2 rfl (by omega) _ k _ (by rfl) ((hown.alloc _).drew)
            ⟨wr.heap.size, 0, none⟩ 1 1 [.string s, .string t] (by rfl) (by rfl) (World.news_of_block (cs := #[.string s, .string t]) (t := 41) (fr := (0, 0)) (heap_alloc_new wr _)) (by simp [Value.oneCell'])
            (by omega) (by unfold maxLen; omega) (by omega) (by simp; omega) (wr.heap.size + 1) (by simp) ?_; intro gg cap w1 hown1 hgrow hat hlt1))
      have hb1 : Below w.heap.size w w1 := ((hbel.alloc hsz _).drew).grown hgrow (by simp; omega) (fun j e => (hob j e).1)
      clear hgrow hown hbel hat
      go_wp2
      go_roundw
      case rel => exact ⟨k + 1, by omega, by go_num, by rw [HT.out]; exact hown1, hb1⟩
      case measure => simp [intOf]; omega
    · go_wp2
      go_ret
      have e : k = n := by omega
      subst e
      refine ⟨_, rfl, ?_, hbel⟩
      rw [List.take_of_length_le (by have := HN.out; omega)] at hown
      exact hown
set_option maxHeartbeats 400000 in
theorem records_0 (a : Option Addr) (c : Nat) (w : World) :
    Calls Try.prog 9 #[.slice a 0 c] w fun e w' => ∃ v, e = .returned v ∧ w'.ownsRow w.heap.size 41 2 v 0 [] ∧ Below w.heap.size w w' := by
  go_enter Try.func9, Try.ntmps9
  go_wp2
  refine wp_loop_rounds 1 ?_
  rw [rounds_succ]
  go_wp2
  go_ret
  exact ⟨_, rfl, World.ownsRow_nil _ _ _ _, Below.refl _ _⟩
theorem records_any {w : World} {v : Value} {n : Nat} {rs : List (ByteArray × ByteArray)} (hn : rs.length = n) (hmax : n ≤ 1048576) (h1 : Rd w w.heap.size v n (recCells rs)) :
    Calls Try.prog 9 #[v] w fun e w' => ∃ v', e = .returned v' ∧ w'.ownsRow w.heap.size 41 2 v' n (recCells rs) ∧ Below w.heap.size w w' := by
  obtain ⟨ao, cap, rfl, _, h0 | ⟨b, off, rfl, hb, hc⟩⟩ := h1
  · subst h0
    obtain rfl : rs = [] := List.eq_nil_of_length_eq_zero hn
    exact records_0 _ _ w
  · exact records_n b off cap n rs w hn hmax hb hc
end Go.Proofs.Ytbdnhccjlggpkaa

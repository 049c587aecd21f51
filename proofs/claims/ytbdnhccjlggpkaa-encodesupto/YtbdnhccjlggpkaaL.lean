import Derived.Test.YtbdnhccjlggpkaaK
namespace Go.Proofs.Ytbdnhccjlggpkaa
open Go.RowKit
theorem info5 : (Try.prog.info? 5).map (fun i => (i.zero, i.size, i.bytes)) = some (some (.int .u8 0), 1, 1) := by kernel_rfl
def bytesV (l : List UInt8) : List Value := l.map fun b => Value.int .u8 b.toNat
theorem bytesV_append (a b : List UInt8) : bytesV (a ++ b) = bytesV a ++ bytesV b := List.map_append ..
theorem bytesV_str (s : ByteArray) : Lib.strCells s = bytesV s.data.toList := rfl
theorem bytesV_length (l : List UInt8) : (bytesV l).length = l.length := List.length_map ..
/-- What a record is written as. -/
def recB (r : ByteArray × ByteArray) : List UInt8 := UInt8.ofNat r.1.size :: r.1.data.toList ++ UInt8.ofNat r.2.size :: r.2.data.toList
theorem byte_of {n : Nat} (h : n < 256) : (Value.int .u8 (n : Int)) = .int .u8 ((UInt8.ofNat n).toNat : Int) := by
  rw [UInt8.toNat_ofNat', Nat.mod_eq_of_lt h]
theorem box_kept {w w' : World} {B base n size : Nat} {e t : TypeId} {v : Value} {xs : List Value} {cs : Array Value} {fr : Nat × Nat} (hb : w.heap[B]? = some (.cells cs t fr)) (ht : t ≠ e)
    (hown : w.ownsRow base e size v n xs) (hg : w.grownBy w' v.ownBlock) : w'.heap[B]? = some (.cells cs t fr) := by
  have hB : B < w.heap.size := (Array.getElem?_eq_some_iff.1 hb).1
  rw [hg.block B hB ?_]
  · exact hb
  · intro h
    rcases hown.2 with ⟨rfl, _⟩ | ⟨g, cap, cur, rfl, _, hh, _⟩
    · cases h
    · have e1 : B = g := by simpa [Value.ownBlock] using h
      subst e1
      rw [hb] at hh
      simp at hh
      exact ht hh.2.1
theorem cell_box {w : World} {B : Nat} {t : TypeId} {fr : Nat × Nat} {a b : Value} (hb : w.heap[B]? = some (.cells #[a, b] t fr)) : w.cell? ⟨B, 0, none⟩ = some a ∧ w.cell? ⟨B, 1, none⟩ = some b := by
  constructor <;> simp [World.cell?, hb]
theorem one_new (w : World) (u : Value) (t : TypeId) : ∀ j x, [u][j]? = some x → (w.alloc (.cells #[u] t)).cell? ((⟨w.heap.size, 0, none⟩ : Addr).add j) = some x := by
  intro j x hj
  match j, hj with
  | 0, hj => simp at hj; subst hj; simp [Addr.add]
theorem recB_length (k u : ByteArray) : (recB (k, u)).length = k.size + u.size + 2 := by
  unfold recB
  simp only [List.length_append, List.length_cons, Array.length_toList]
  show k.size + 1 + (u.size + 1) = _
  omega
theorem recB_cells (k u : ByteArray) (hk : k.size < 256) (hu : u.size < 256) : bytesV (recB (k, u)) = Value.int .u8 k.size :: (Lib.strCells k ++ Value.int .u8 u.size :: Lib.strCells u) := by
  rw [byte_of hk, byte_of hu]
  unfold recB bytesV Lib.strCells
  simp only [List.map_append, List.map_cons, List.cons_append]
set_option maxHeartbeats 1600000 in
theorem appendRecord_any (w : World) (base n : Nat) (v : Value) (xs : List UInt8) (k u : ByteArray) (hk : k.size ≤ 40) (hu : u.size ≤ 100) (hn : n ≤ 268435456) (hbase : base ≤ w.heap.size)
    (hown : w.ownsRow base 5 1 v n (bytesV xs)) :
    Calls Try.prog 28 #[v, .agg #[.string k, .string u]] w fun e w' => ∃ v', e = .returned v' ∧ w'.ownsRow base 5 1 v' (n + (recB (k, u)).length) (bytesV (xs ++ recB (k, u))) ∧ Below base w w' := by
  obtain ⟨i0, hi0, hz0, hz1, hz2⟩ := info_parts info5
  go_enter Try.func28, Try.ntmps28
  go_wp2_with (at_builtin; refine wpList_append_own _ rfl (.tmp 5) (.tmp 10) 55 rfl base 5 i0 (.int .u8 0) 1 1 Try.underlying55 hi0 hz0 hz1 hz2 rfl (by decide) _ _ _ rfl ((hown.alloc _).alloc _) ⟨w.heap.size + 1, 0, none⟩ 1 1 [.int .u8 k.size] rfl rfl (by have := one_new (w.alloc (Obj.cells #[Value.string k, Value.string u] 41)) (.int .u8 k.size) 5; simpa using this) (by simp [Value.oneCell']) (by unfold maxLen; omega) (by omega) (by simp; omega) ?_)
  intro v1 w1 hown1 hg1 _
  have hx1 : w1.heap[w.heap.size]? = some (.cells #[.string k, .string u] 41 (0, 0)) :=
    box_kept (e := 5) (by rw [Below.heap_alloc _ _ _ (by simp)]; exact heap_alloc_new w _) (by decide) ((hown.alloc _).alloc _) hg1
  have hb1 : Below base w w1 := (((Below.refl base w).alloc hbase _).alloc (by simp; omega) _).grown hg1 (by simp; omega) (fun j e => (hown.lt j e).1)
  obtain ⟨c1, d1⟩ := cell_box hx1
  clear hown hg1
  go_wp2_with (at_builtin; refine Lib.wpList_append_own_string _ rfl (.tmp 12) (.tmp 14) 55 9 rfl base 5 i0 Try.underlying55 Try.underlying9 hi0 hz0 hz1 hz2 _ _ _ rfl hown1 k rfl (by unfold maxLen; omega) (by omega) (by have := hb1.size; omega) ?_)
  intro v2 w2 hown2 hg2 _
  have hx2 := box_kept (e := 5) hx1 (by decide) hown1 hg2
  have hb2 : Below base w w2 := hb1.grown hg2 (by have := hb1.size; omega) (fun j e => (hown1.lt j e).1)
  clear c1 d1 hown1 hg2 hx1 hb1
  obtain ⟨c1, d1⟩ := cell_box hx2
  go_wp2_with (at_builtin; refine wpList_append_own _ rfl (.tmp 16) (.tmp 21) 55 rfl base 5 i0 (.int .u8 0) 1 1 Try.underlying55 hi0 hz0 hz1 hz2 rfl (by decide) _ _ _ rfl (hown2.alloc _) ⟨w2.heap.size, 0, none⟩ 1 1 [.int .u8 u.size] rfl rfl (one_new w2 (.int .u8 u.size) 5) (by simp [Value.oneCell']) (by unfold maxLen; omega) (by omega) (by have := hb2.size; simp; omega) ?_)
  intro v3 w3 hown3 hg3 _
  have hx3 := box_kept (e := 5) (by rw [Below.heap_alloc _ _ _ (by exact (Array.getElem?_eq_some_iff.1 hx2).1)]; exact hx2) (by decide) (hown2.alloc _) hg3
  have hb3 : Below base w w3 := (hb2.alloc (by have := hb2.size; omega) _).grown hg3 (by have := hb2.size; simp; omega) (fun j e => (hown2.lt j e).1)
  clear c1 d1 hown2 hg3 hx2 hb2
  obtain ⟨c1, d1⟩ := cell_box hx3
  go_wp2_with (at_builtin; refine Lib.wpList_append_own_string _ rfl (.tmp 23) (.tmp 25) 55 9 rfl base 5 i0 Try.underlying55 Try.underlying9 hi0 hz0 hz1 hz2 _ _ _ rfl hown3 u rfl (by unfold maxLen; omega) (by omega) (by have := hb3.size; omega) ?_)
  intro v4 w4 hown4 hg4 _
  have hb4 : Below base w w4 := hb3.grown hg4 (by have := hb3.size; omega) (fun j e => (hown3.lt j e).1)
  clear c1 d1 hown3 hg4 hx3 hb3
  obtain ⟨g, cap, rfl⟩ : ∃ a c, v4 = .slice a (n + 1 + k.size + 1 + u.size) c := by
    rcases hown4.2 with ⟨rfl, h⟩ | ⟨g, cap, cur, rfl, _⟩
    · exact ⟨none, 0, by rw [h]⟩
    · exact ⟨_, _, rfl⟩
  go_wp2
  go_ret
  refine ⟨_, rfl, ?_, hb4⟩
  rw [recB_length, show n + (k.size + u.size + 2) = n + 1 + k.size + 1 + u.size from by omega, bytesV_append, recB_cells k u (by omega) (by omega)]
  exact hown4
end Go.Proofs.Ytbdnhccjlggpkaa

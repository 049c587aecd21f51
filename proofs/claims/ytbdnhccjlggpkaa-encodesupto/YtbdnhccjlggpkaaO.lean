import Derived.Test.YtbdnhccjlggpkaaN
namespace Go.Proofs.Ytbdnhccjlggpkaa
open Go.RowKit Go.Shelf
section
attribute [local go_sem] Oper.semAt_some
set_option maxRecDepth 100000 in
set_option maxHeartbeats 4000000 in
theorem sealAll_0 (ao : Option Addr) (cap : Nat) (w : World) :
    Calls Try.prog 29 #[.slice ao 0 cap] w fun e w' => ∃ v, e = .returned v ∧ w'.ownsRow w.heap.size 9 1 v 0 [] ∧ Below w.heap.size w w' := by
  refine (callsIn_wide (n := 9)).1 ?_
  refine callsIn_of_wp_marks Try.func29 rfl trivial ?_ rfl
  simp only [Try.ntmps29, List.size_toArray, List.length_cons, List.length_nil, Nat.reduceAdd, Nat.reduceSub, Array.replicate_succ, Array.replicate_zero, List.push_toArray, List.append_toArray, List.nil_append, List.cons_append]
  gi_wp2_with (refine ⟨trivial, ?_⟩; gi_at_call 42; refine (chunk_in _ _ _ _ _).mono ?_; rintro e w' ⟨rfl, rfl⟩)
  have bO := Boxed.new w 28 (.slice none 0 0)
  have bS := Boxed.new (w.alloc (.cells #[.slice none 0 0] 28)) 55 (.slice ao 0 cap)
  rw [World.size_alloc] at bS
  have hB0 : Below w.heap.size w (((w.alloc (.cells #[.slice none 0 0] 28)).alloc (.cells #[.slice ao 0 cap] 55)).alloc (.cells #[.int .i64 60] 3)) := (((Below.refl _ w).alloc (Nat.le_refl _) _).alloc (by simp) _).alloc (by simp; omega) _
  refine wpIn_rangeFunc_ownF (n := 9) rfl (by omega) (gf := 50) (lb := #[.pointer (some ⟨w.heap.size + 1, 0, none⟩), .pointer (some ⟨w.heap.size + 2, 0, none⟩)]) rfl trivial (enters_of Try.func50 (by kernel_rfl) rfl)
    (chunk_stops0 8 (w.heap.size + 1) (w.heap.size + 2) ao cap _ (by simp) (bS.alloc _).cell 0 0 0) KC.trans (fun W l' o o' hl _ _ _ => KC.putObj W l' o' (by simp at hl; omega) (by simp at hl; omega)) (Below.refl _ _) (fun _ => rfl)
    (fun (_ : List Nat) W => Boxed W w.heap.size 28 (.slice none 0 0) ∧ Below w.heap.size w W)
    (fun _ _ _ => False)
    (OwnFrom.and (Own.from (boxed_own _ _ _) _) (ownFrom_below (Nat.le_refl _) (by simp; omega)))
    (fun _ _ _ _ _ hs _ _ => hs)
    ⟨(bO.alloc _).alloc _, hB0⟩
    (fun x => { tmps := #[.slice ao 0 cap, undef, .slice none 0 0, .pointer (some ⟨w.heap.size, 0, none⟩), cutV 0 0 0 x, undef, .slice ao 0 cap, .func (.func 50) #[] #[.pointer (some ⟨w.heap.size + 1, 0, none⟩), .pointer (some ⟨w.heap.size + 2, 0, none⟩)], cutV 0 0 0 x, undef, undef, undef, undef, undef, undef, undef, undef, undef, undef], defers := [] }) ?assign ?body ?done ?stop
  case assign =>
    intro l x W K hK
    gi_wp2
    exact hK
  case body =>
    rintro l' pre x W _ hlt
    exact absurd hlt (Nat.not_lt_zero _)
  case done =>
    rintro D ys W hD rfl ⟨hv, hB⟩ hK
    have hcc := hv.cell
    gi_wp2
    refine ⟨by simp, .inl ⟨_, _, rfl, run_takeDeferred hK, ?_⟩⟩
    exact ⟨_, results_tmp rfl _ _ _, _, rfl, World.ownsRow_nil _ _ _ _, hB.trans (belowK_b (w := w) (Nat.le_refl _) W D _ _ (by simp at hD; omega) hK rfl rfl)⟩
  case stop =>
    rintro D c pre W _ _ h _
    exact h.elim
end
/-- The blocks of a text. -/
def nB60 (n : Nat) : Nat := (n + 59) / 60
def blocksOf (l : List UInt8) : List ByteArray := (starts (nB60 l.length)).map (blockB l)
theorem blocksOf_length (l : List UInt8) : (blocksOf l).length = nB60 l.length := by unfold blocksOf; rw [List.length_map, starts_length]
theorem sealAll_any {w : World} {B : Nat} {v : Value} {n : Nat} {l : List UInt8} (hB : B ≤ w.heap.size) (hn : l.length = n) (hmax : n ≤ 268435456) (h : Rd w B v n (bytesV l)) :
    Calls Try.prog 29 #[v] w fun e w' => ∃ v', e = .returned v' ∧ w'.ownsRow w.heap.size 9 1 v' (blocksOf l).length (strs (blocksOf l)) ∧ Below w.heap.size w w' := by
  obtain ⟨ao, cap, rfl, hcap, h0 | ⟨b, off, rfl, hb, hc⟩⟩ := h
  · subst h0
    obtain rfl : l = [] := List.eq_nil_of_length_eq_zero hn
    exact sealAll_0 ao cap w
  · rw [blocksOf_length]
    unfold blocksOf
    rw [hn]
    exact sealAll_n b off n cap (nB60 n) l w hn (by unfold nB60; omega) (by unfold nB60; omega) hcap hmax (by omega) hc
end Go.Proofs.Ytbdnhccjlggpkaa

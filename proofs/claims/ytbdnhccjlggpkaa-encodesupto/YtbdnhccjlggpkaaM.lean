import Derived.Test.YtbdnhccjlggpkaaL
import Derived.RangeFuncNested
import Derived.RangeFuncBound
import Derived.RangeFuncCalls
import Derived.RangeFuncLeaves
import Derived.RangeFuncBox
import Derived.Shelf.Abstract
import Derived.Shelf.RegionOpen
import Derived.OwnWalkIn
import Derived.TacticsInMore
import Derived.LoopNIn
import Derived.LoopIn
import Derived.Maps.AppendAt
import Derived.Sort.QuietIn
import Derived.Sort.CutIn
namespace Go.Proofs.Ytbdnhccjlggpkaa
open Go.RowKit Go.Shelf
attribute [local go_sem] Oper.semAt_some
/-- The piece that begins at p (or at the last place, so that there always is one). -/
def cutV (b off n p : Nat) : Value := .slice (some ⟨b, off + min p (n - 1), none⟩) (min 60 (n - min p (n - 1))) (min 60 (n - min p (n - 1)))
theorem cutV_lt {b off n p : Nat} (h : p < n) : cutV b off n p = .slice (some ⟨b, off + p, none⟩) (min 60 (n - p)) (min 60 (n - p)) := by
  unfold cutV; rw [show min p (n - 1) = p from by omega]
/-- The places at which k pieces begin. -/
def starts (k : Nat) : List Nat := (List.range k).map (· * 60)
theorem starts_succ (k : Nat) : starts (k + 1) = starts k ++ [k * 60] := by simp [starts, List.range_succ]
theorem starts_length (k : Nat) : (starts k).length = k := by simp [starts]
/-- The two boxes hold what they held. -/
def KC (Bs Bn : Nat) (A B : World) : Prop := B.cell? ⟨Bs, 0, none⟩ = A.cell? ⟨Bs, 0, none⟩ ∧ B.cell? ⟨Bn, 0, none⟩ = A.cell? ⟨Bn, 0, none⟩
theorem KC.trans {Bs Bn : Nat} {A B C : World} (h : KC Bs Bn A B) (k : KC Bs Bn B C) : KC Bs Bn A C := ⟨k.1.trans h.1, k.2.trans h.2⟩
theorem KC.putObj {Bs Bn : Nat} (W : World) (l : Nat) (o' : Obj) (h1 : Bs ≠ l) (h2 : Bn ≠ l) : KC Bs Bn W (W.putObj l o') :=
  ⟨World.cell?_of_block (World.putObj_heap_other h1), World.cell?_of_block (World.putObj_heap_other h2)⟩
theorem grownBy_drewN (w : World) (k : Nat) : w.grownBy (w.drewN k) none := ⟨rfl, rfl, rfl, Nat.le_refl _, fun _ _ _ => rfl⟩
set_option maxRecDepth 100000 in
set_option maxHeartbeats 2000000 in
theorem chunk1_in (d : Nat) (hd : 1 ≤ d) (l Bs Bn b off n cap m : Nat) (hm : n ≤ m * 60) (hm2 : m * 60 < n + 60) (hcap : n ≤ cap) (hmax : n ≤ 268435456) (J Jx : List Nat → World → Prop) (Bj : Nat) (hJ : AbidesFrom Bj J)
    (hY : ∀ pre x W, J pre W → pre.length < m → YieldAt Fence.wide (d - 1) Try.prog l #[cutV b off n x] W fun e W' =>
      (e = .returned (.bool true) ∧ J (pre ++ [x]) W' ∧ KC Bs Bn W W') ∨ (e = .returned (.bool false) ∧ Jx (pre ++ [x]) W'))
    (W : World) (hBs : W.cell? ⟨Bs, 0, none⟩ = some (.slice (some ⟨b, off, none⟩) n cap)) (hBn : W.cell? ⟨Bn, 0, none⟩ = some (.int .i64 60)) (h0 : J [] W) :
    CallsIn Fence.wide d Try.prog 50 #[.func (.yield l) #[] #[], .pointer (some ⟨Bs, 0, none⟩), .pointer (some ⟨Bn, 0, none⟩)] W fun e W' => (∃ v, e = .returned v) ∧
      ((∃ ys, ys = starts m ∧ J ys W') ∨ (∃ pre, (∃ k, pre = starts k) ∧ Jx pre W')) := by
  refine callsIn_of_wp Try.func50 rfl trivial ?_ rfl
  simp only [Try.ntmps50, List.size_toArray, List.length_cons, List.length_nil, Nat.reduceAdd, Nat.reduceSub, Array.replicate_succ, Array.replicate_zero, List.push_toArray, List.append_toArray, List.nil_append, List.cons_append]
  gi_wp2
  gi_loopw [4] (fun i wr => ∃ k p : Nat, k ≤ m ∧ Hid (p = k * 60) ∧ i = .int .i64 p ∧ J (starts k) wr ∧ wr.cell? ⟨Bs, 0, none⟩ = some (.slice (some ⟨b, off, none⟩) n cap) ∧ wr.cell? ⟨Bn, 0, none⟩ = some (.int .i64 60)) (fun i _ => m * 60 - (intOf i).toNat)
  case atStart => exact ⟨0, 0, Nat.zero_le _, rfl, rfl, h0, hBs, hBn⟩
  case round =>
    obtain ⟨k, p, hk, HP, rfl, hJs, c1, c2⟩ := hrel
    by_cases hlt : p < n
    · have hi : (p : Int) < (n : Int) := by omega
      have hcp : ¬ cap = p := by omega
      have hpn : (p : Int) ≤ (n : Int) := by omega
      by_cases hfull : p + 60 ≤ n
      · skip
        have hmin : Hid (min 60 (n - p) = 60) := by show _ = _; omega
        have hge : ¬ ((n - p : Nat) : Int) < 60 := by omega
        gi_wp2
        gi_quiet (fail)
        obtain ⟨fn, tmps, assign, body, hy, hR⟩ := hY _ p (wr.drewN nq) (hJ _ _ _ none hJs (grownBy_drewN wr nq) (fun r e => by cases e)) (by rw [starts_length]; have := HP.out; omega)
        rw [cutV_lt hlt, hmin.out] at hy
        gi_wp2
        refine hR.mono ?_
        rintro e W3 (⟨rfl, hJ3, hk3⟩ | ⟨rfl, hJx3⟩)
        · have c1' : W3.cell? ⟨Bs, 0, none⟩ = some (.slice (some ⟨b, off, none⟩) n cap) := hk3.1.trans c1
          have c2' : W3.cell? ⟨Bn, 0, none⟩ = some (.int .i64 60) := hk3.2.trans c2
          clear c1 c2 hy hR
          gi_wp2
          go_roundw
          case rel => exact ⟨k + 1, p + 60, by have := HP.out; omega, by show _ = _; have := HP.out; omega, by go_num, by rw [starts_succ, ← HP.out]; exact hJ3, c1', c2'⟩
          case measure => have := HP.out; simp [intOf]; omega
        · gi_wp2
          refine bodyPost_ret (results_none rfl _ _ _) rfl ?_
          exact ⟨⟨_, rfl⟩, .inr ⟨_, ⟨k + 1, by rw [starts_succ, ← HP.out]⟩, hJx3⟩⟩
      · skip
        have hmin : Hid (min 60 (n - p) = n - p) := by show _ = _; omega
        have hge : ((n - p : Nat) : Int) < 60 := by omega
        gi_wp2
        gi_quiet (fail)
        obtain ⟨fn, tmps, assign, body, hy, hR⟩ := hY _ p (wr.drewN nq) (hJ _ _ _ none hJs (grownBy_drewN wr nq) (fun r e => by cases e)) (by rw [starts_length]; have := HP.out; omega)
        rw [cutV_lt hlt, hmin.out] at hy
        gi_wp2
        refine hR.mono ?_
        rintro e W3 (⟨rfl, hJ3, hk3⟩ | ⟨rfl, hJx3⟩)
        · have c1' : W3.cell? ⟨Bs, 0, none⟩ = some (.slice (some ⟨b, off, none⟩) n cap) := hk3.1.trans c1
          have c2' : W3.cell? ⟨Bn, 0, none⟩ = some (.int .i64 60) := hk3.2.trans c2
          clear c1 c2 hy hR
          gi_wp2
          go_roundw
          case rel => exact ⟨k + 1, p + 60, by have := HP.out; omega, by show _ = _; have := HP.out; omega, by go_num, by rw [starts_succ, ← HP.out]; exact hJ3, c1', c2'⟩
          case measure => have := HP.out; simp [intOf]; omega
        · gi_wp2
          refine bodyPost_ret (results_none rfl _ _ _) rfl ?_
          exact ⟨⟨_, rfl⟩, .inr ⟨_, ⟨k + 1, by rw [starts_succ, ← HP.out]⟩, hJx3⟩⟩
    · have hkm : k = m := by have := HP.out; omega
      subst hkm
      gi_wp2
      go_end0
      exact ⟨⟨_, rfl⟩, .inl ⟨_, rfl, hJs⟩⟩
set_option maxRecDepth 100000 in
set_option maxHeartbeats 2000000 in
theorem chunk1_0 (d : Nat) (l Bs Bn : Nat) (ao : Option Addr) (cap : Nat) (J : List Nat → World → Prop)
    (W : World) (hBs : W.cell? ⟨Bs, 0, none⟩ = some (.slice ao 0 cap)) (h0 : J [] W) :
    CallsIn Fence.wide d Try.prog 50 #[.func (.yield l) #[] #[], .pointer (some ⟨Bs, 0, none⟩), .pointer (some ⟨Bn, 0, none⟩)] W fun e W' => (∃ v, e = .returned v) ∧ J [] W' := by
  refine callsIn_of_wp Try.func50 rfl trivial ?_ rfl
  simp only [Try.ntmps50, List.size_toArray, List.length_cons, List.length_nil, Nat.reduceAdd, Nat.reduceSub, Array.replicate_succ, Array.replicate_zero, List.push_toArray, List.append_toArray, List.nil_append, List.cons_append]
  gi_wp2
  gi_loopw [4] (fun i wr => i = .int .i64 0 ∧ wr = W) (fun _ _ => 0)
  case atStart => exact ⟨rfl, rfl⟩
  case round =>
    obtain ⟨rfl, rfl⟩ := hrel
    gi_wp2
    go_end0
    exact ⟨⟨_, rfl⟩, h0⟩
set_option maxHeartbeats 1000000 in
theorem chunk_in (d : Nat) (ao : Option Addr) (n c : Nat) (w : World) :
    CallsIn Fence.wide d Try.prog 42 #[.slice ao n c, .int .i64 60] w fun e w' => e = .returned (.func (.func 50) #[] #[.pointer (some ⟨w.heap.size, 0, none⟩), .pointer (some ⟨w.heap.size + 1, 0, none⟩)]) ∧ w' = (w.alloc (.cells #[.slice ao n c] 55)).alloc (.cells #[.int .i64 60] 3) := by
  refine callsIn_of_wp Try.func42 rfl trivial ?_ rfl
  simp only [Try.ntmps42, List.size_toArray, List.length_cons, List.length_nil, Nat.reduceAdd, Nat.reduceSub, Array.replicate_succ, Array.replicate_zero, List.push_toArray, List.append_toArray, List.nil_append, List.cons_append]
  gi_wp2
  go_ret
  exact ⟨rfl, rfl⟩
theorem chunk_stops (d : Nat) (hd : 1 ≤ d) (Bs Bn b off n cap m : Nat) (hm : n ≤ m * 60) (hm2 : m * 60 < n + 60) (hcap : n ≤ cap) (hmax : n ≤ 268435456) (w : World) (hBs0 : Bs < w.heap.size) (hBn0 : Bn < w.heap.size)
    (hBs : w.cell? ⟨Bs, 0, none⟩ = some (.slice (some ⟨b, off, none⟩) n cap)) (hBn : w.cell? ⟨Bn, 0, none⟩ = some (.int .i64 60)) :
    SeqStopsK Fence.wide d Try.prog 50 #[.pointer (some ⟨Bs, 0, none⟩), .pointer (some ⟨Bn, 0, none⟩)] (fun x : Nat => #[cutV b off n x]) (KC Bs Bn) (fun ys => ys = starts m) (fun _ => True) m w := fun l J Jx W hW hJ _ hY h0 => by
  refine (chunk1_in d hd l Bs Bn b off n cap m hm hm2 hcap hmax J Jx W.heap.size hJ hY W ((hW.cell (p := ⟨Bs, 0, none⟩) hBs0).trans hBs) ((hW.cell (p := ⟨Bn, 0, none⟩) hBn0).trans hBn) h0).mono ?_
  rintro e W' ⟨he, ⟨ys, rfl, hj⟩ | ⟨pre, _, hj⟩⟩
  · exact ⟨he, .inl ⟨_, rfl, hj⟩⟩
  · exact ⟨he, .inr ⟨_, trivial, hj⟩⟩
theorem chunk_stops0 (d : Nat) (Bs Bn : Nat) (ao : Option Addr) (cap : Nat) (w : World) (hBs0 : Bs < w.heap.size)
    (hBs : w.cell? ⟨Bs, 0, none⟩ = some (.slice ao 0 cap)) (b off n : Nat) :
    SeqStopsK Fence.wide d Try.prog 50 #[.pointer (some ⟨Bs, 0, none⟩), .pointer (some ⟨Bn, 0, none⟩)] (fun x : Nat => #[cutV b off n x]) (KC Bs Bn) (fun ys => ys = []) (fun _ => True) 0 w := fun l J Jx W hW _ _ _ h0 => by
  refine (chunk1_0 d l Bs Bn ao cap J W ((hW.cell (p := ⟨Bs, 0, none⟩) hBs0).trans hBs) h0).mono ?_
  rintro e W' ⟨he, hj⟩
  exact ⟨he, .inl ⟨_, rfl, hj⟩⟩
end Go.Proofs.Ytbdnhccjlggpkaa

import Derived.Test.YtbdnhccjlggpkaaU
import Derived.Deep.RegionWith
namespace Go.Proofs.Ytbdnhccjlggpkaa
open Go.RowKit
theorem grownBy_drewn (w : World) (k : Nat) : w.grownBy (w.drewN k) none := ⟨rfl, rfl, rfl, Nat.le_refl _, fun _ _ _ => rfl⟩
theorem grownBy_drew1 (w : World) : w.grownBy w.drew none := ⟨rfl, rfl, rfl, Nat.le_refl _, fun _ _ _ => rfl⟩
set_option maxRecDepth 100000 in
set_option maxHeartbeats 1600000 in
theorem whole_wrong (Br : Nat) (W : World) (h2 : W.cell? ⟨Br, 2, none⟩ = some (.bool true)) :
    Calls Try.prog 53 #[.pointer (some ⟨Br, 0, none⟩)] W fun e W' => e = .returned (.bool false) ∧ W.grownBy W' none := by
  go_enter Try.func53, Try.ntmps53
  go_wp2_with fail
  go_ret
  exact ⟨rfl, grownBy_refl _ _⟩
set_option maxRecDepth 100000 in
set_option maxHeartbeats 1600000 in
theorem whole_0 (Br cap : Nat) (ao : Option Addr) (W : World) (h0 : W.cell? ⟨Br, 0, none⟩ = some (.slice ao 0 cap)) (h2 : W.cell? ⟨Br, 2, none⟩ = some (.bool false)) :
    Calls Try.prog 53 #[.pointer (some ⟨Br, 0, none⟩)] W fun e W' => e = .returned (.bool false) ∧ W.grownBy W' none := by
  go_enter Try.func53, Try.ntmps53
  go_wp2_with fail
  go_ret
  exact ⟨rfl, grownBy_refl _ _⟩
set_option maxRecDepth 100000 in
set_option maxHeartbeats 1600000 in
theorem whole_1 (Br b off n cap m : Nat) (W : World) (h0 : W.cell? ⟨Br, 0, none⟩ = some (.slice (some ⟨b, off, none⟩) n cap)) (h2 : W.cell? ⟨Br, 2, none⟩ = some (.bool false))
    (hc0 : W.cell? ⟨b, off, none⟩ = some (.int .u8 (m : Int))) (hn : 0 < n) (hm : m < 256) (hle : n ≤ 1 + m) :
    Calls Try.prog 53 #[.pointer (some ⟨Br, 0, none⟩)] W fun e W' => e = .returned (.bool false) ∧ W.grownBy W' none := by
  have hw : IntKind.i64.wrap (1 + (m : Int)) = 1 + (m : Int) := wrap_small _ (by omega) (by omega)
  have hz : ((n : Int) == 0) = false := by rw [beq_eq_false_iff_ne]; omega
  have hg : decide (1 + (m : Int) < (n : Int)) = false := by rw [decide_eq_false_iff_not]; omega
  have hni : (0 : Int) < (n : Int) := by omega
  go_enter Try.func53, Try.ntmps53
  go_wp2_with fail
  go_quiet (fail)
  go_wp2_with fail
  all_goals (go_ret; exact ⟨by first | rfl | simp_all, grownBy_drewn _ _⟩)
set_option maxRecDepth 100000 in
set_option maxHeartbeats 1600000 in
theorem whole_2 (Br b off n cap m d : Nat) (W : World) (h0 : W.cell? ⟨Br, 0, none⟩ = some (.slice (some ⟨b, off, none⟩) n cap)) (h2 : W.cell? ⟨Br, 2, none⟩ = some (.bool false))
    (hc0 : W.cell? ⟨b, off, none⟩ = some (.int .u8 (m : Int))) (hm : m < 256) (hle : 1 + m < n) (hc1 : W.cell? ⟨b, off + (1 + m), none⟩ = some (.int .u8 (d : Int))) (hd : d < 256) (r : Bool) (hr : decide (1 + m + d < n) = r) :
    Calls Try.prog 53 #[.pointer (some ⟨Br, 0, none⟩)] W fun e W' => e = .returned (.bool r) ∧ W.grownBy W' none := by
  have hw : IntKind.i64.wrap (1 + (m : Int)) = 1 + (m : Int) := wrap_small _ (by omega) (by omega)
  have hw2 : IntKind.i64.wrap (1 + (m : Int) + (d : Int)) = 1 + (m : Int) + (d : Int) := wrap_small _ (by omega) (by omega)
  have hz : ((n : Int) == 0) = false := by rw [beq_eq_false_iff_ne]; omega
  have hg : decide (1 + (m : Int) < (n : Int)) = true := by rw [decide_eq_true_iff]; omega
  have hni : (0 : Int) < (n : Int) := by omega
  have hn2 : 1 + (m : Int) < (n : Int) := by omega
  have hr2 : decide (1 + (m : Int) + (d : Int) < (n : Int)) = r := by rw [← hr]; congr 1; exact propext ⟨fun h => by omega, fun h => by omega⟩
  clear hr
  go_enter Try.func53, Try.ntmps53
  go_wp2_with fail
  go_quiet (fail)
  go_wp2_with fail
  all_goals (go_ret; exact ⟨by first | rfl | simp_all, grownBy_drewn _ _⟩)
end Go.Proofs.Ytbdnhccjlggpkaa

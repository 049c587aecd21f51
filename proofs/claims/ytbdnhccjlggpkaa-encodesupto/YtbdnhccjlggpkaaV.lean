import Derived.Test.YtbdnhccjlggpkaaU5
namespace Go.Proofs.Ytbdnhccjlggpkaa
open Go.RowKit Go.Shelf
attribute [local go_sem] Oper.semAt_some
theorem read_any {W : World} {B Br : Nat} {l k v s : List UInt8} {sh x : Bool} (h : Rdr W B Br l sh x) (hw : whole l = some ((k, v), s)) (hmax : l.length ≤ 268435456) :
    Calls Try.prog 54 #[.pointer (some ⟨Br, 0, none⟩)] W fun e W' => e = .returned (.tuple #[.agg #[.string ⟨k.toArray⟩, .string ⟨v.toArray⟩, keyV k], .bool (right k v)]) ∧ Rdr W' B Br s sh (!right k v) ∧ W.grownBy W' (some Br) := by
  obtain ⟨r, h1, h2⟩ := whole_parts hw
  rcases keyV_shape k with e | ⟨t, u, e⟩
  · rw [e]; exact read_nil (right k v) h h1 h2 hmax e _ rfl rfl
  · rw [e]; exact read_key (right k v) h h1 h2 hmax e _ rfl rfl
abbrev Pc := { x : ByteArray // x.size ≤ 60 }
/-- The row of pieces lies as it lay. -/
def KB (b : Nat) (A B : World) : Prop := B.heap[b]? = A.heap[b]?
theorem KB.trans {b : Nat} {A B C : World} (h : KB b A B) (k : KB b B C) : KB b A C := Eq.trans k h
set_option maxRecDepth 100000 in
set_option maxHeartbeats 2000000 in
theorem vals1_in (d : Nat) (hd : 1 ≤ d) (l Bs b off n cap : Nat) (ss : List Pc) (hn : ss.length = n) (hmax : n ≤ 268435456) (J Jx : List Pc → World → Prop)
    (hY : ∀ pre x W, J pre W → pre.length < n → YieldAt Fence.wide (d - 1) Try.prog l #[.string x.1] W fun e W' =>
      (e = .returned (.bool true) ∧ J (pre ++ [x]) W' ∧ KB b W W') ∨ (e = .returned (.bool false) ∧ Jx (pre ++ [x]) W'))
    (W : World) (hBs : W.cell? ⟨Bs, 0, none⟩ = some (.slice (some ⟨b, off, none⟩) n cap)) (hc : ∀ j u, (strs (ss.map (·.1)))[j]? = some u → W.cell? ⟨b, off + j, none⟩ = some u) (h0 : J [] W) :
    CallsIn Fence.wide d Try.prog 55 #[.func (.yield l) #[] #[], .pointer (some ⟨Bs, 0, none⟩)] W fun e W' => (∃ v, e = .returned v) ∧
      ((∃ ys, ys = ss ∧ J ys W') ∨ (∃ pre, (∃ k, pre = ss.take k) ∧ Jx pre W')) := by
  have HN : Hid (ss.length = n) := hn
  have HC : Hid (∀ j u, (strs (ss.map (·.1)))[j]? = some u → W.cell? ⟨b, off + j, none⟩ = some u) := hc
  clear hn hc
  refine callsIn_of_wp Try.func55 rfl trivial ?_ rfl
  simp only [Try.ntmps55, List.size_toArray, List.length_cons, List.length_nil, Nat.reduceAdd, Nat.reduceSub, Array.replicate_succ, Array.replicate_zero, List.push_toArray, List.append_toArray, List.nil_append, List.cons_append]
  gi_wp2
  gi_loopw [7] (fun i wr => ∃ k : Nat, k ≤ n ∧ i = .int .i64 k ∧ J (ss.take k) wr ∧ wr.heap[b]? = W.heap[b]?) (fun i _ => n - (intOf i).toNat)
  case atStart => exact ⟨0, Nat.zero_le _, rfl, by simpa using h0, rfl⟩
  case round =>
    obtain ⟨k, hk, rfl, hJs, hbk⟩ := hrel
    by_cases hlt : k < n
    · have hl : k < ss.length := by have := HN.out; omega
      have c1 := (World.cell?_of_block (a := ⟨b, off + k, none⟩) hbk).trans (HC.out k _ (strs_get (ss.map (·.1)) k (by rw [List.length_map]; exact hl)))
      rw [List.getElem_map] at c1
      have hi : (k : Int) < (n : Int) := by omega
      have ht : Hid (ss.take (k + 1) = ss.take k ++ [ss[k]]) := List.take_succ_eq_append_getElem hl
      obtain ⟨fn, tmps, assign, body, hy, hR⟩ := hY (ss.take k) ss[k] wr hJs (by rw [List.length_take]; omega)
      generalize ss[k] = x at *
      obtain ⟨x, hx⟩ := x
      dsimp only at c1 hy
      gi_wp2
      refine hR.mono ?_
      rintro e W3 (⟨rfl, hJ3, hk3⟩ | ⟨rfl, hJx3⟩)
      · clear hy hR
        gi_wp2
        go_roundw
        case rel => exact ⟨k + 1, by omega, by go_num, by rw [ht.out]; exact hJ3, Eq.trans hk3 hbk⟩
        case measure => simp [intOf]; omega
      · gi_wp2
        refine bodyPost_ret (results_none rfl _ _ _) rfl ?_
        exact ⟨⟨_, rfl⟩, .inr ⟨_, ⟨k + 1, rfl⟩, by rw [ht.out]; exact hJx3⟩⟩
    · have e : ss.take k = ss := List.take_of_length_le (by have := HN.out; omega)
      rw [e] at hJs
      gi_wp2
      go_end0
      exact ⟨⟨_, rfl⟩, .inl ⟨_, rfl, hJs⟩⟩
set_option maxRecDepth 100000 in
set_option maxHeartbeats 2000000 in
theorem vals1_0 (d : Nat) (l Bs : Nat) (ao : Option Addr) (cap : Nat) (J : List Pc → World → Prop)
    (W : World) (hBs : W.cell? ⟨Bs, 0, none⟩ = some (.slice ao 0 cap)) (h0 : J [] W) :
    CallsIn Fence.wide d Try.prog 55 #[.func (.yield l) #[] #[], .pointer (some ⟨Bs, 0, none⟩)] W fun e W' => (∃ v, e = .returned v) ∧ J [] W' := by
  refine callsIn_of_wp Try.func55 rfl trivial ?_ rfl
  simp only [Try.ntmps55, List.size_toArray, List.length_cons, List.length_nil, Nat.reduceAdd, Nat.reduceSub, Array.replicate_succ, Array.replicate_zero, List.push_toArray, List.append_toArray, List.nil_append, List.cons_append]
  gi_wp2
  gi_loopw [7] (fun i wr => i = .int .i64 0 ∧ wr = W) (fun _ _ => 0)
  case atStart => exact ⟨rfl, rfl⟩
  case round =>
    obtain ⟨rfl, rfl⟩ := hrel
    gi_wp2
    go_end0
    exact ⟨⟨_, rfl⟩, h0⟩
theorem vals_stops (d : Nat) (hd : 1 ≤ d) (Bs B n : Nat) (sv : Value) (ss : List Pc) (hn : ss.length = n) (hmax : n ≤ 268435456) (w : World) (hBs0 : Bs < w.heap.size) (hB : B ≤ w.heap.size)
    (hBs : w.cell? ⟨Bs, 0, none⟩ = some sv) (hr : Rd w B sv n (strs (ss.map (·.1)))) :
    ∃ b, (b < B ∨ b = Bs) ∧ SeqStopsK Fence.wide d Try.prog 55 #[.pointer (some ⟨Bs, 0, none⟩)] (fun x : Pc => #[.string x.1]) (KB b) (fun ys => ys = ss) (fun _ => True) n w := by
  obtain ⟨ao, cap, rfl, _, h0 | ⟨b, off, rfl, hb, hc⟩⟩ := hr
  · subst h0
    refine ⟨Bs, Or.inr rfl, fun l J Jx W hW _ _ _ h0 => ?_⟩
    refine (vals1_0 d l Bs ao cap J W ((hW.cell (p := ⟨Bs, 0, none⟩) hBs0).trans hBs) h0).mono ?_
    rintro e W' ⟨he, hj⟩
    exact ⟨he, .inl ⟨_, (List.eq_nil_of_length_eq_zero hn).symm, hj⟩⟩
  · refine ⟨b, Or.inl hb, fun l J Jx W hW hJ _ hY h0 => ?_⟩
    refine (vals1_in d hd l Bs b off n cap ss hn hmax J Jx hY W ((hW.cell (p := ⟨Bs, 0, none⟩) hBs0).trans hBs) (fun j u hj => (hW.cell (p := ⟨b, off + j, none⟩) (by show b < _; omega)).trans (hc j u hj)) h0).mono ?_
    rintro e W' ⟨he, ⟨ys, rfl, hj⟩ | ⟨pre, _, hj⟩⟩
    · exact ⟨he, .inl ⟨_, rfl, hj⟩⟩
    · exact ⟨he, .inr ⟨_, trivial, hj⟩⟩
end Go.Proofs.Ytbdnhccjlggpkaa

import Derived.Test.YtbdnhccjlggpkaaMth
namespace Go.Proofs.Ytbdnhccjlggpkaa
open Go.RowKit
theorem shape_of {w : World} {base : Nat} {e : TypeId} {size : Nat} {v : Value} {n : Nat} {xs : List Value} (h : w.ownsRow base e size v n xs) : ∃ a c, v = .slice a n c := by
  rcases h.2 with ⟨rfl, h0⟩ | ⟨g, cap, cur, rfl, _⟩
  · exact ⟨none, 0, by rw [h0]⟩
  · exact ⟨_, _, rfl⟩
theorem encB_small {rs : List RecB} (h : (textOf rs).length ≤ 1048576) : (encB rs).length ≤ 1048576 ∧ ∀ s ∈ encB rs, s.size ≤ 1048576 := by
  unfold encB
  split
  · simp
  · split
    · simp
    · constructor
      · rw [blocksOf_length]; unfold nB60; omega
      · intro s hs
        obtain ⟨j, hj, rfl⟩ := List.mem_iff_getElem.1 hs
        obtain ⟨e, hlt⟩ := blocks_get _ j hj
        rw [e, blockB_size hlt]
        omega
theorem head_own {w : World} {base : Nat} {e : TypeId} {size : Nat} {ao : Option Addr} {c : Nat} {n : Nat} {xs : List Value} (h : w.ownsRow base e size (.slice ao n c) n xs) (hn : 0 < n) : ∃ g, ao = some ⟨g, 0, none⟩ ∧ base ≤ g := by
  rcases h.2 with ⟨h1, h0⟩ | ⟨g, cap, cur, h1, h2, _⟩
  · omega
  · cases h1; exact ⟨g, rfl, h2⟩
/-- Spoiling one cell of an owned row. -/
theorem spoil {w W : World} {base g c n k : Nat} {xs : List Value} (h : w.ownsRow base 9 1 (.slice (some ⟨g, 0, none⟩) n c) n xs) (hk : k < n) (u : Value) (hb : Below base W w) :
    ∃ x, w.cell? ⟨g, k, none⟩ = some x ∧ w.frozen? ⟨g, k, none⟩ = false ∧ (∃ ys, (w.setCell ⟨g, k, none⟩ u).ownsRow base 9 1 (.slice (some ⟨g, 0, none⟩) n c) n ys) ∧ Below base W (w.setCell ⟨g, k, none⟩ u) := by
  have hl : xs.length = n := by have := h.1; omega
  have hc := h.cellAt k (by omega)
  rw [List.getElem?_eq_getElem (by omega)] at hc
  exact ⟨_, hc, h.frozenAt k, ⟨_, (h.stored k u).1⟩, hb.setCell (p := ⟨g, k, none⟩) (h.lt g rfl).1 u⟩
theorem enc_zero {rs : List RecB} (h : (encE rs).1 = 0) : decA (encB rs) = (rs, 0, 0) := by
  unfold encE at h
  cases h1 : rs.findIdx? noKey with
  | some i => rw [h1] at h; cases h
  | none =>
    rw [h1] at h
    cases h2 : rs.findIdx? longV with
    | some i => rw [h2] at h; cases h
    | none => exact decA_enc h1 h2
set_option maxRecDepth 100000 in
set_option maxHeartbeats 3200000 in
theorem encodes_walk {w : World} {v : Value} {n : Nat} {rs : List RecB} (hn : rs.length = n) (hmax : n ≤ 1048576) (hT : (textOf rs).length ≤ 1048576) (hrd : Rd w w.heap.size v n (recCells rs)) :
    Calls Try.prog 5 #[v] w fun e w' => e = .returned (.bool true) ∧ Below w.heap.size w w' := by
  obtain ⟨hm1, hm2⟩ := encB_small hT
  have HN : Hid (rs.length = n) := hn
  have HM2 : Hid (∀ s ∈ encB rs, s.size ≤ 1048576) := hm2
  have HR : Hid (Rd w w.heap.size v n (recCells rs)) := hrd
  clear hn hrd hT hm2
  go_enter Try.func5, Try.ntmps5
  go_wp2_with fail
  refine (records_any HN.out hmax HR.out).mono ?_
  rintro e W1 ⟨va, rfl, oa, b1⟩
  obtain ⟨aa, ca, rfl⟩ := shape_of oa
  have ra := rd_of_owns oa
  go_wp2_with fail
  refine (encode_any (Nat.le_refl _) HN.out hmax ra).mono ?_
  rintro e W2 ⟨vl, rfl, ol, b2⟩
  obtain ⟨al, cl, rfl⟩ := shape_of ol
  have rl := rd_of_owns ol
  have s1 := b1.size
  have s2 := b2.size
  have b02 := b1.trans (b2.mono s1)
  go_wp2_with fail
  refine (encode_any (B := W1.heap.size) s2 HN.out hmax (ra.below b2)).mono ?_
  rintro e W3 ⟨vx, rfl, ox, b3⟩
  obtain ⟨ax, cx, rfl⟩ := shape_of ox
  have s3 := b3.size
  go_wp2_with fail
  go_loopw [10] (fun i wr => ∃ (k : Nat) (ys : List Value), k ≤ (encB rs).length ∧ i = .int .i64 k ∧ wr.ownsRow W2.heap.size 9 1 (.slice ax (encB rs).length cx) (encB rs).length ys ∧ Below W2.heap.size W2 wr) (fun i _ => (encB rs).length - (intOf i).toNat)
  case atStart => exact ⟨0, _, Nat.zero_le _, rfl, ox, b3⟩
  case round =>
    obtain ⟨k, ys, hk, rfl, oy, by1⟩ := hrel
    by_cases hlt : k < (encB rs).length
    · obtain ⟨g, rfl, hg⟩ := head_own oy (by omega)
      obtain ⟨x, hx, hf, ⟨zs, oz⟩, bz⟩ := spoil oy hlt (.string ⟨#[63]⟩) by1
      have hi : (k : Int) < ((encB rs).length : Int) := by omega
      clear oy by1
      go_wp2_with fail
      go_roundw
      case rel => exact ⟨k + 1, zs, by omega, by go_num, oz, bz⟩
      case measure => simp [intOf]; omega
    · have sz := by1.size
      have bw := b02.trans (by1.mono (by omega))
      clear oy ox b3
      go_wp2_with fail
      refine (refEncode_any (B := w.heap.size) bw.size HN.out hmax (HR.out.below bw)).mono ?_
      rintro e W4 ⟨vm, rfl, om, b4⟩
      obtain ⟨am, cm, rfl⟩ := shape_of om
      have rm := rd_of_owns om
      have s4 := b4.size
      have bl := by1.trans (b4.mono sz)
      have bw4 := bw.trans (b4.mono (by omega))
      go_wp2_with fail
      refine (texts_eq rfl hm1 (rl.below bl) rm).mono ?_
      rintro e w5 ⟨rfl, k5, rfl⟩
      go_wp2_with fail
      refine (same_eq HN.out hmax ((ra.below (b2.trans (bl.mono s2))).drewN k5) ((HR.out.below bw4).drewN k5)).mono ?_
      rintro e w6 ⟨rfl, k6, rfl⟩
      go_wp2_with fail
      refine (num_any _ _).mono ?_
      rintro e w7 ⟨rfl, rfl⟩
      by_cases h0 : (encE rs).1 = 0
      · have HA : Hid (decA (encB rs) = (rs, 0, 0)) := enc_zero h0
        have hz : ((encE rs).1 != 0) = false := by rw [h0]; rfl
        clear h0
        go_wp2_with fail
        have b8 := bw4.trans (below_drewN' w.heap.size W4 (k5 + k6))
        have b9 := b8.size
        refine (decode_any (B := W2.heap.size) (by show W2.heap.size ≤ W4.heap.size; omega) rfl hm1 HM2.out ((rl.below bl).drewN (k5 + k6))).mono ?_
        intro e W9 hp
        unfold DPost at hp
        rw [HA.out] at hp
        obtain ⟨vb, rfl, ob, bb⟩ := hp
        obtain ⟨ab, cb, rfl⟩ := shape_of ob
        have bw9 := b8.trans (bb.mono b9)
        go_wp2_with fail
        refine (same_eq HN.out hmax (by rw [← HN.out]; exact rd_of_owns ob) (HR.out.below bw9)).mono ?_
        rintro e w10 ⟨rfl, k10, rfl⟩
        go_wp2_with fail
        refine (num_any _ _).mono ?_
        rintro e w11 ⟨rfl, rfl⟩
        go_wp2_with fail
        go_ret
        exact ⟨rfl, bw9.trans (below_drewN' _ _ _)⟩
      · have hz : ((encE rs).1 != 0) = true := by rw [bne_iff_ne]; exact h0
        go_wp2_with fail
        go_ret
        exact ⟨rfl, bw4.trans (below_drewN' _ _ _)⟩
end Go.Proofs.Ytbdnhccjlggpkaa

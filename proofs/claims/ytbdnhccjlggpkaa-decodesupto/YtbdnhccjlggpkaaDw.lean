import Derived.Test.YtbdnhccjlggpkaaInv
import Derived.Test.YtbdnhccjlggpkaaEw
import Derived.Laws.AppendOwnNone
namespace Go.Proofs.Ytbdnhccjlggpkaa
open Go.RowKit
theorem dec_short {ss : List ByteArray} : (decA ss).1.length ≤ (contentOf ss).length := by
  unfold decA
  cases h1 : ss.findIdx? bad with
  | some i => simp
  | none =>
    simp only
    split
    · cases hd : decL (contentOf ss) with
      | none => simp
      | some rs =>
        simp only
        obtain ⟨_, i2⟩ := dec_back _ _ _ (Nat.le_refl _) hd
        have h3 := text_ge rs
        rw [i2] at h3
        exact h3
    · simp
/-- Spoiling one record of an owned row. -/
theorem spoil2 {w W : World} {base g c n k : Nat} {xs : List Value} (h : w.ownsRow base 41 2 (.slice (some ⟨g, 0, none⟩) n c) n xs) (hk : k < n) (u v : Value) (hb : Below base W w) :
    (∃ x, w.cell? ⟨g, k * 2, none⟩ = some x) ∧ w.frozen? ⟨g, k * 2, none⟩ = false ∧ (∃ x, (w.setCell ⟨g, k * 2, none⟩ u).cell? ⟨g, k * 2 + 1, none⟩ = some x) ∧ (w.setCell ⟨g, k * 2, none⟩ u).frozen? ⟨g, k * 2 + 1, none⟩ = false ∧ (∃ x, w.cell? ⟨g, k * 2 + 1, none⟩ = some x) ∧ w.frozen? ⟨g, k * 2 + 1, none⟩ = false ∧
      (∃ ys, ((w.setCell ⟨g, k * 2, none⟩ u).setCell ⟨g, k * 2 + 1, none⟩ v).ownsRow base 41 2 (.slice (some ⟨g, 0, none⟩) n c) n ys) ∧ Below base W ((w.setCell ⟨g, k * 2, none⟩ u).setCell ⟨g, k * 2 + 1, none⟩ v) := by
  have hl : xs.length = n * 2 := by have := h.1; omega
  have hc := h.cellAt (k * 2) (by omega)
  rw [List.getElem?_eq_getElem (by omega)] at hc
  have hd := h.cellAt (k * 2 + 1) (by omega)
  rw [List.getElem?_eq_getElem (by omega)] at hd
  have h' := (h.stored (k * 2) u).1
  have hl' := h'.1
  have hc' := h'.cellAt (k * 2 + 1) (by omega)
  rw [List.getElem?_eq_getElem (by simp; omega)] at hc'
  exact ⟨⟨_, hc⟩, h.frozenAt _, ⟨_, hc'⟩, h'.frozenAt _, ⟨_, hd⟩, h.frozenAt _, ⟨_, (h'.stored (k * 2 + 1) v).1⟩, (hb.setCell (p := ⟨g, k * 2, none⟩) (h.lt g rfl).1 u).setCell (p := ⟨g, k * 2 + 1, none⟩) (h.lt g rfl).1 v⟩
/-- A source of an append: nil, or a row that lies in memory. -/
def Src (w : World) (v : Value) (n : Nat) (xs : List Value) : Prop :=
  (v = .slice none 0 0 ∧ n = 0) ∨ ∃ ad c, v = .slice (some ad) n c ∧ ∀ j u, xs[j]? = some u → w.cell? (ad.add j) = some u
theorem wp_copy {w : World} {ops : Array Oper} {rest : List Oper} {o : Oper} {a : Act} {Q : Exit → Act → World → Prop} (hgd : o.guard = none) (s x : Operand)
    (ho : o.op = .call { callee := .builtin .append, args := #[s, x], argTypes := #[28, 28] }) (hs : a.eval s = .slice none 0 0) {v : Value} {n : Nat} {ss : List ByteArray} (hx : a.eval x = v) (hlen : ss.length = n) (hmax : n ≤ 1048576) (hv : Src w v n (strs ss))
    (h : ∀ v' w', w'.ownsRow w.heap.size 9 1 v' n (strs ss) → Below w.heap.size w w' → wpList Try.prog ops Q rest (a.put o.dst v') w') : wpList Try.prog ops Q (o :: rest) a w := by
  obtain ⟨i0, hi0, hz0, hz1, hz2⟩ := info_parts info9
  rcases hv with ⟨rfl, rfl⟩ | ⟨ad, c, rfl, hc⟩
  · obtain rfl : ss = [] := List.eq_nil_of_length_eq_zero hlen
    exact wpList_append_own_none hgd s x 28 ho w.heap.size 9 i0 1 Try.underlying28 hi0 _ _ _ hs (World.ownsRow_nil _ _ _ _) hx (h _ _ (World.ownsRow_nil _ _ _ _) (Below.refl _ _))
  · refine wpList_append_own _ hgd s x 28 ho w.heap.size 9 i0 (.string ByteArray.empty) 1 16 Try.underlying28 hi0 hz0 hz1 hz2 rfl (by decide) _ 0 [] hs (World.ownsRow_nil _ _ _ _) ad n c (strs ss) hx (by unfold strs; rw [List.length_map]; omega) hc ?_ (by unfold maxLen; omega) (by omega) (Nat.le_refl _) ?_
    · intro u hu
      obtain ⟨t, _, rfl⟩ := List.mem_map.1 hu
      rfl
    · intro v' w' h1 h2 _
      rw [Nat.zero_add, List.nil_append] at h1
      exact h v' w' h1 ((Below.refl _ _).grown h2 (Nat.le_refl _) (fun i e => by cases e))
set_option maxRecDepth 100000 in
set_option maxHeartbeats 3200000 in
theorem decodes_walk {w : World} {v : Value} {n : Nat} {ss : List ByteArray} (hn : ss.length = n) (hmax : n ≤ 1048576) (hsz : ∀ s ∈ ss, s.size ≤ 1048576) (hT : (contentOf ss).length ≤ 1048576) (hrd : Rd w w.heap.size v n (strs ss)) (hsr : Src w v n (strs ss)) :
    Calls Try.prog 6 #[v] w fun e w' => e = .returned (.bool true) ∧ Below w.heap.size w w' := by
  have hm1 : (decA ss).1.length ≤ 1048576 := Nat.le_trans dec_short hT
  have HN : Hid (ss.length = n) := hn
  have HM2 : Hid (∀ s ∈ ss, s.size ≤ 1048576) := hsz
  have HR : Hid (Rd w w.heap.size v n (strs ss)) := hrd
  have HS : Hid (Src w v n (strs ss)) := hsr
  clear hn hrd hT hsz hsr
  go_enter Try.func6, Try.ntmps6
  go_wp2_with (at_builtin; refine wp_copy rfl (.tmp 20) (.tmp 21) rfl rfl rfl HN.out hmax HS.out ?_)
  rintro v1 W1 oa b1
  obtain ⟨aa, ca, rfl⟩ := shape_of oa
  have ra := rd_of_owns oa
  have s1 := b1.size
  go_wp2_with fail
  refine (decode_any (Nat.le_refl _) HN.out hmax HM2.out ra).mono ?_
  rintro e W2 ⟨vl, rfl, ol, b2⟩
  obtain ⟨al, cl, rfl⟩ := shape_of ol
  have rl := rd_of_owns ol
  have s2 := b2.size
  have b02 := b1.trans (b2.mono s1)
  go_wp2_with fail
  refine (decode_any (B := W1.heap.size) s2 HN.out hmax HM2.out (ra.below b2)).mono ?_
  rintro e W3 ⟨vx, rfl, ox, b3⟩
  obtain ⟨ax, cx, rfl⟩ := shape_of ox
  have s3 := b3.size
  go_wp2_with fail
  go_loopw [10] (fun i wr => ∃ (k : Nat) (ys : List Value), k ≤ (decA ss).1.length ∧ i = .int .i64 k ∧ wr.ownsRow W2.heap.size 41 2 (.slice ax (decA ss).1.length cx) (decA ss).1.length ys ∧ Below W2.heap.size W2 wr) (fun i _ => (decA ss).1.length - (intOf i).toNat)
  case atStart => exact ⟨0, _, Nat.zero_le _, rfl, ox, b3⟩
  case round =>
    obtain ⟨k, ys, hk, rfl, oy, by1⟩ := hrel
    by_cases hlt : k < (decA ss).1.length
    · obtain ⟨g, rfl, hg⟩ := head_own oy (by omega)
      obtain ⟨⟨x1, hx1⟩, hf1, ⟨x2, hx2⟩, hf2, ⟨x3, hx3⟩, hf3, ⟨zs, oz⟩, bz⟩ := spoil2 oy hlt (.string ⟨#[]⟩) (.string ⟨#[]⟩) by1
      have hi : (k : Int) < ((decA ss).1.length : Int) := by omega
      clear oy by1
      go_wp2_with fail
      go_roundw
      case rel => exact ⟨k + 1, zs, by omega, by go_num, oz, bz⟩
      case measure => simp [intOf]; omega
    · have sz := by1.size
      have bw := b02.trans (by1.mono (by omega))
      clear oy ox b3
      go_wp2_with fail
      refine (refDecode_any (B := w.heap.size) bw.size HN.out hmax HM2.out (HR.out.below bw)).mono ?_
      rintro e W4 ⟨vm, rfl, om, b4⟩
      obtain ⟨am, cm, rfl⟩ := shape_of om
      have rm := rd_of_owns om
      have s4 := b4.size
      have bl := by1.trans (b4.mono sz)
      have bw4 := bw.trans (b4.mono (by omega))
      go_wp2_with fail
      refine (same_eq rfl hm1 (rl.below bl) rm).mono ?_
      rintro e w5 ⟨rfl, k5, rfl⟩
      go_wp2_with fail
      refine (texts_eq HN.out hmax ((ra.below (b2.trans (bl.mono s2))).drewN k5) ((HR.out.below bw4).drewN k5)).mono ?_
      rintro e w6 ⟨rfl, k6, rfl⟩
      go_wp2_with fail
      refine (num_any _ _).mono ?_
      rintro e w7 ⟨rfl, rfl⟩
      by_cases h0 : (decA ss).2.1 = 0
      · have hA := dec_code h0
        obtain ⟨hE, hB⟩ := dec_zero hA
        have HE : Hid (encE (decA ss).1 = (0, 0)) := hE
        have HB : Hid (encB (decA ss).1 = ss) := hB
        have hz : ((decA ss).2.1 != 0) = false := by rw [h0]; rfl
        clear h0 hA hE hB
        go_wp2_with fail
        have b8 := bw4.trans (below_drewN' w.heap.size W4 (k5 + k6))
        have b9 := b8.size
        refine (encode_any (B := W2.heap.size) (by show W2.heap.size ≤ W4.heap.size; omega) rfl hm1 ((rl.below bl).drewN (k5 + k6))).mono ?_
        intro e W9 hp
        rw [HE.out, HB.out] at hp
        obtain ⟨vb, rfl, ob, bb⟩ := hp
        obtain ⟨ab, cb, rfl⟩ := shape_of ob
        have bw9 := b8.trans (bb.mono b9)
        go_wp2_with fail
        refine (texts_eq HN.out hmax (by rw [← HN.out]; exact rd_of_owns ob) (HR.out.below bw9)).mono ?_
        rintro e w10 ⟨rfl, k10, rfl⟩
        go_wp2_with fail
        refine (num_any _ _).mono ?_
        rintro e w11 ⟨rfl, rfl⟩
        go_wp2_with fail
        go_ret
        exact ⟨rfl, bw9.trans (below_drewN' _ _ _)⟩
      · have hz : ((decA ss).2.1 != 0) = true := by rw [bne_iff_ne]; exact h0
        go_wp2_with fail
        go_ret
        exact ⟨rfl, bw4.trans (below_drewN' _ _ _)⟩
end Go.Proofs.Ytbdnhccjlggpkaa

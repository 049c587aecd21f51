import Derived.Test.YtbdnhccjlggpkaaM
namespace Go.Proofs.Ytbdnhccjlggpkaa
open Go.RowKit Go.Shelf
attribute [local go_sem] Oper.semAt_some
theorem info9 : (Try.prog.info? 9).map (fun i => (i.zero, i.size, i.bytes)) = some (some (.string ByteArray.empty), 1, 16) := by kernel_rfl
def pieceL (l : List UInt8) (p : Nat) : List UInt8 := (l.drop (min p (l.length - 1))).take 60
def blockB (l : List UInt8) (p : Nat) : ByteArray := ⟨(pieceL l p ++ sumL (pieceL l p)).toArray⟩
theorem strOf_bytes (l : List UInt8) : strOfNums (l.map fun c => (c.toNat : Int)) = ⟨l.toArray⟩ := by
  unfold strOfNums
  congr 2
  rw [List.map_map]
  conv => rhs; rw [← List.map_id l]
  apply List.map_congr_left
  intro c _
  simp
theorem run_cut {w : World} {b off n : Nat} {l : List UInt8} (hn : l.length = n) (hc : ∀ j u, (bytesV l)[j]? = some u → w.cell? ⟨b, off + j, none⟩ = some u) (p : Nat) :
    (convert 55 9 (cutV b off n p)).run Try.prog w = .ok (.string ⟨(pieceL l p).toArray⟩) w := by
  unfold cutV
  have hlen : (pieceL l p).length = min 60 (n - min p (n - 1)) := by unfold pieceL; rw [List.length_take, List.length_drop, hn]
  have h := run_convert_bytes_arg (P := Try.prog) w 55 5 Try.underlying55 Try.underlying5 b (off + min p (n - 1)) (min 60 (n - min p (n - 1))) (min 60 (n - min p (n - 1))) ((pieceL l p).map fun c => (c.toNat : Int)) (by rw [List.length_map, hlen]) (by
    intro i hi
    have hi' : i < (pieceL l p).length := by omega
    rw [Nat.add_assoc]
    have hg : (bytesV l)[min p (n - 1) + i]? = some (.int .u8 ((pieceL l p)[i].toNat : Int)) := by
      unfold bytesV
      rw [List.getElem?_map]
      have e : l[min p (n - 1) + i]? = some (pieceL l p)[i] := by
        have e2 : (pieceL l p)[i]? = some (pieceL l p)[i] := List.getElem?_eq_getElem hi'
        rw [← e2]
        unfold pieceL
        rw [List.getElem?_take_of_lt (by omega), List.getElem?_drop, hn]
      rw [e]; rfl
    rw [hc _ _ hg]
    simp [List.getD, List.getElem?_eq_getElem hi']) 9 Try.underlying9
  rw [h, strOf_bytes]
theorem ownsRow_below {W W' : World} {base n size : Nat} {e : TypeId} {v : Value} {xs : List Value} (h : W.ownsRow base e size v n xs) (hb : Below W.heap.size W W') : W'.ownsRow base e size v n xs := by
  refine ⟨h.1, ?_⟩
  rcases h.2 with ⟨rfl, h0⟩ | ⟨g, cap, cur, rfl, h1, h2, h3⟩
  · exact Or.inl ⟨rfl, h0⟩
  · exact Or.inr ⟨g, cap, cur, rfl, h1, (hb.block g (h.lt g rfl).2).trans h2, h3⟩
theorem boxed_below {W W' : World} {B : Nat} {t : TypeId} {v : Value} (h : Boxed W B t v) (hb : Below W.heap.size W W') : Boxed W' B t v := (hb.block B h.lt).trans h
theorem keeps_below {W W' : World} (hb : Below W.heap.size W W') : KeepsOthers W W' :=
  ⟨hb.size, fun k _ hk _ => (hb.block k (Array.getElem?_eq_some_iff.1 hk).1).trans hk⟩
theorem seal_step {w W W1 w2 : World} {v v' sv nv : Value} {k B Bs Bn n₀ : Nat} {xs : List Value} {u : Value}
    (hv : Boxed W B 28 v) (hrow : W.ownsRow n₀ 9 1 v k xs) (bS : Boxed W Bs 55 sv) (bN : Boxed W Bn 3 nv) (hBel : Below n₀ w W) (hn₀ : n₀ ≤ w.heap.size) (hB : n₀ ≤ B) (hs : Bs ≠ B) (hn : Bn ≠ B)
    (hcall : Below W.heap.size W W1) (hown2 : w2.ownsRow n₀ 9 1 v' (k + 1) (xs ++ [u])) (hg2 : (W1.alloc (.cells #[u] 9)).grownBy w2 v.ownBlock) :
    KeepsOthers W (w2.setCell ⟨B, 0, none⟩ v') ∧ KC Bs Bn W (w2.setCell ⟨B, 0, none⟩ v') ∧
      ((∃ x, Boxed (w2.setCell ⟨B, 0, none⟩ v') B 28 x ∧ (w2.setCell ⟨B, 0, none⟩ v').ownsRow n₀ 9 1 x (k + 1) (xs ++ [u]) ∧ True) ∧ Boxed (w2.setCell ⟨B, 0, none⟩ v') Bs 55 sv ∧ Boxed (w2.setCell ⟨B, 0, none⟩ v') Bn 3 nv) ∧ Below n₀ w (w2.setCell ⟨B, 0, none⟩ v') := by
  have hv1 := boxed_below hv hcall
  have hr1 := ownsRow_below hrow hcall
  have bS1 := boxed_below bS hcall
  have bN1 := boxed_below bN hcall
  have hsz : n₀ ≤ W.heap.size := by have := hBel.size; omega
  have hsz1 : n₀ ≤ W1.heap.size := by have := hcall.size; omega
  obtain ⟨h1, h2, h3, h4, h5⟩ := hv1.appended (t := 28) (e := 9) (by decide) hr1 hsz1 hB hown2 hg2
  have bS2 : Boxed (w2.setCell ⟨B, 0, none⟩ v') Bs 55 sv := ((bS1.alloc _).kept hg2 (bS1.not_row (by decide) hr1)).other hs v'
  have bN2 : Boxed (w2.setCell ⟨B, 0, none⟩ v') Bn 3 nv := ((bN1.alloc _).kept hg2 (bN1.not_row (by decide) hr1)).other hn v'
  exact ⟨(keeps_below hcall).trans h4, ⟨bS2.cell.trans bS.cell.symm, bN2.cell.trans bN.cell.symm⟩, ⟨⟨_, h2, h3, trivial⟩, bS2, bN2⟩, (hBel.trans (hcall.mono hsz)).trans h5⟩
theorem seal_call {w W w1 : World} {v sv nv : Value} {k B Bs Bn n₀ : Nat} {xs : List Value} (u : ByteArray) (hk : k ≤ 268435456)
    (hv : Boxed W B 28 v) (hrow : W.ownsRow n₀ 9 1 v k xs) (bS : Boxed W Bs 55 sv) (bN : Boxed W Bn 3 nv) (hBel : Below n₀ w W) (hn₀ : n₀ ≤ w.heap.size) (hB : n₀ ≤ B) (hs : Bs ≠ B) (hn : Bn ≠ B)
    (hb1 : Below W.drew.heap.size W.drew w1) :
    ∃ g cap w2, (Builtin.append_ #[28, 28] 28 #[v, .slice (some ⟨w1.heap.size, 0, none⟩) 1 1]).run Try.prog (w1.alloc (.cells #[.string u] 9)) = .ok (.slice (some ⟨g, 0, none⟩) (k + 1) cap) w2 ∧
      w1.cell? ⟨B, 0, none⟩ = some v ∧ (w1.alloc (.cells #[.string u] 9)).cell? ⟨B, 0, none⟩ = some v ∧ w2.cell? ⟨B, 0, none⟩ = some v ∧ w2.frozen? ⟨B, 0, none⟩ = false ∧
      Hid (KeepsOthers W (w2.setCell ⟨B, 0, none⟩ (.slice (some ⟨g, 0, none⟩) (k + 1) cap)) ∧ KC Bs Bn W (w2.setCell ⟨B, 0, none⟩ (.slice (some ⟨g, 0, none⟩) (k + 1) cap)) ∧
      ((∃ x, Boxed (w2.setCell ⟨B, 0, none⟩ (.slice (some ⟨g, 0, none⟩) (k + 1) cap)) B 28 x ∧ (w2.setCell ⟨B, 0, none⟩ (.slice (some ⟨g, 0, none⟩) (k + 1) cap)).ownsRow n₀ 9 1 x (k + 1) (xs ++ [.string u]) ∧ True) ∧ Boxed (w2.setCell ⟨B, 0, none⟩ (.slice (some ⟨g, 0, none⟩) (k + 1) cap)) Bs 55 sv ∧ Boxed (w2.setCell ⟨B, 0, none⟩ (.slice (some ⟨g, 0, none⟩) (k + 1) cap)) Bn 3 nv) ∧ Below n₀ w (w2.setCell ⟨B, 0, none⟩ (.slice (some ⟨g, 0, none⟩) (k + 1) cap))) := by
  obtain ⟨i0, hi0, hz0, hz1, hz2⟩ := info_parts info9
  have hcall : Below W.heap.size W w1 := ((Below.refl _ W).drew).trans hb1
  have hr1 := ownsRow_below hrow hcall
  have hv1 := boxed_below hv hcall
  obtain ⟨v2, w2, hrun, hown2, hg2, _⟩ := run_append_own (P := Try.prog) (w1.alloc (.cells #[.string u] 9)) n₀ 28 28 9 i0 (.string ByteArray.empty) 1 16 Try.underlying28 hi0 hz0 hz1 hz2 rfl (by decide) v k xs (hr1.alloc _) ⟨w1.heap.size, 0, none⟩ 1 1 [.string u] rfl (one_new w1 _ 9) (by simp [Value.oneCell']) (by unfold maxLen; omega) (by omega) (by have := hBel.size; have := hcall.size; simp; omega)
  obtain ⟨g, cap, rfl⟩ := ownsRow_succ hown2
  have hbz := (hv1.alloc (.cells #[.string u] 9)).kept hg2 (hv1.not_row (by decide) hr1)
  exact ⟨g, cap, w2, hrun, hv1.cell, (hv1.alloc _).cell, hbz.cell, hbz.frozen, seal_step hv hrow bS bN hBel hn₀ hB hs hn hcall hown2 hg2⟩
theorem strs_snoc (f : Nat → ByteArray) (pre : List Nat) (x : Nat) : strs ((pre ++ [x]).map f) = strs (pre.map f) ++ [.string (f x)] := by
  unfold strs; rw [List.map_append, List.map_append]; rfl
theorem add_ps (l : List UInt8) (x : Nat) (w : World) : (Op.stringOp .add ⟨(pieceL l x).toArray⟩ ⟨(sumL (pieceL l x)).toArray⟩).run Try.prog w = .ok (.string (blockB l x)) w := by
  have hl : (pieceL l x).length ≤ 60 := by unfold pieceL; rw [List.length_take]; omega
  exact run_string_add_lists w _ _ (by omega) (by unfold sumL; simp)
/-- An append among the operations of a region in a round, kept from the walk's own hand. -/
def ApIn (F : Fence) (n : Nat) (P : Program) (o : Oper) (a : Act) (w : World) (K : Act → World → Prop) (Q : Exit → Act → World → Prop) : Prop := Oper.wpIn F n P o a w K Q
theorem ap_hide {F : Fence} {n : Nat} {P : Program} {d : Option Nat} {s x : Operand} {t1 t2 t : TypeId} {p : String} {af : Array Edge} {a : Act} {w : World} {K : Act → World → Prop} {Q : Exit → Act → World → Prop} :
    Oper.wpIn F n P { dst := d, op := .call { callee := .builtin .append, args := #[s, x], argTypes := #[t1, t2] }, type := t, pos := p, after := af, guard := none } a w K Q
      = ApIn F n P { dst := d, op := .call { callee := .builtin .append, args := #[s, x], argTypes := #[t1, t2] }, type := t, pos := p, after := af, guard := none } a w K Q := rfl
theorem wpIn_at_zero {F : Fence} {n : Nat} {P : Program} {o : Oper} {l : List Oper} {h : 0 < (o :: l).toArray.size} {a : Act} {w : World} {K : Act → World → Prop} {Q : Exit → Act → World → Prop} :
    Oper.wpIn F n P ((o :: l).toArray[0]'h) a w K Q = Oper.wpIn F n P o a w K Q := rfl
theorem wpIn_at_succ {F : Fence} {n : Nat} {P : Program} {o : Oper} {l : List Oper} {m : Nat} {h : m + 1 < (o :: l).toArray.size} {a : Act} {w : World} {K : Act → World → Prop} {Q : Exit → Act → World → Prop} :
    Oper.wpIn F n P ((o :: l).toArray[m + 1]'h) a w K Q = Oper.wpIn F n P (l.toArray[m]'(by simpa using h)) a w K Q := rfl
theorem apIn_step {F : Fence} {n : Nat} {P : Program} {d : Option Nat} {s x : Operand} {t1 t2 t : TypeId} {p : String} {af : Array Edge} {a : Act} {w w2 : World} {K : Act → World → Prop} {Q : Exit → Act → World → Prop} {v xv v' : Value}
    (hrun : (Builtin.append_ #[t1, t2] t #[v, xv]).run P w = .ok v' w2) (hs : a.eval s = v) (hx : a.eval x = xv) (h : K (a.put d v') w2) :
    ApIn F n P { dst := d, op := .call { callee := .builtin .append, args := #[s, x], argTypes := #[t1, t2] }, type := t, pos := p, after := af, guard := none } a w K Q := by
  unfold ApIn Oper.wpIn
  refine ⟨?_, ?_⟩
  · simp [Oper.about, resolve, Target.leads, Sem.run_pure]
  · rw [Oper.semAt_plain F _ _ (by intro c hc'; cases hc')]
    simp [execOp, resolve, invoke, builtin, hs, hx, hrun, Result.andThen]
    exact h
attribute [local go_sem ↓] add_ps wpIn_at_zero wpIn_at_succ ap_hide
set_option maxRecDepth 100000 in
set_option maxHeartbeats 4000000 in
theorem sealAll_n (b off n cap m : Nat) (l : List UInt8) (w : World) (hn : l.length = n) (hm : n ≤ m * 60) (hm2 : m * 60 < n + 60) (hcap : n ≤ cap) (hmax : n ≤ 268435456) (hb : b < w.heap.size)
    (hc : ∀ j u, (bytesV l)[j]? = some u → w.cell? ⟨b, off + j, none⟩ = some u) :
    Calls Try.prog 29 #[.slice (some ⟨b, off, none⟩) n cap] w fun e w' => ∃ v, e = .returned v ∧ w'.ownsRow w.heap.size 9 1 v m (strs ((starts m).map (blockB l))) ∧ Below w.heap.size w w' := by
  obtain ⟨i0, hi0, hz0, hz1, hz2⟩ := info_parts info9
  refine (callsIn_wide (n := 9)).1 ?_
  refine callsIn_of_wp_marks Try.func29 rfl trivial ?_ rfl
  simp only [Try.ntmps29, List.size_toArray, List.length_cons, List.length_nil, Nat.reduceAdd, Nat.reduceSub, Array.replicate_succ, Array.replicate_zero, List.push_toArray, List.append_toArray, List.nil_append, List.cons_append]
  gi_wp2_with (refine ⟨trivial, ?_⟩; gi_at_call 42; refine (chunk_in _ _ _ _ _).mono ?_; rintro e w' ⟨rfl, rfl⟩)
  have bO := Boxed.new w 28 (.slice none 0 0)
  have bS := Boxed.new (w.alloc (.cells #[.slice none 0 0] 28)) 55 (.slice (some ⟨b, off, none⟩) n cap)
  rw [World.size_alloc] at bS
  have bN := Boxed.new ((w.alloc (.cells #[.slice none 0 0] 28)).alloc (.cells #[.slice (some ⟨b, off, none⟩) n cap] 55)) 3 (.int .i64 60)
  rw [World.size_alloc, World.size_alloc] at bN
  have hB0 : Below w.heap.size w (((w.alloc (.cells #[.slice none 0 0] 28)).alloc (.cells #[.slice (some ⟨b, off, none⟩) n cap] 55)).alloc (.cells #[.int .i64 60] 3)) := (((Below.refl _ w).alloc (Nat.le_refl _) _).alloc (by simp) _).alloc (by simp; omega) _
  refine wpIn_rangeFunc_ownF (n := 9) rfl (by omega) (gf := 50) (lb := #[.pointer (some ⟨w.heap.size + 1, 0, none⟩), .pointer (some ⟨w.heap.size + 2, 0, none⟩)]) rfl trivial (enters_of Try.func50 (by kernel_rfl) rfl)
    (chunk_stops 8 (by omega) (w.heap.size + 1) (w.heap.size + 2) b off n cap m hm hm2 hcap hmax _ (by simp) (by simp) (bS.alloc _).cell bN.cell) KC.trans (fun W l' o o' hl _ _ _ => KC.putObj W l' o' (by simp at hl; omega) (by simp at hl; omega)) (Below.refl _ _) (fun _ => rfl)
    (fun (pre : List Nat) W => ((∃ v, Boxed W w.heap.size 28 v ∧ W.ownsRow w.heap.size 9 1 v pre.length (strs (pre.map (blockB l))) ∧ True) ∧ Boxed W (w.heap.size + 1) 55 (.slice (some ⟨b, off, none⟩) n cap) ∧ Boxed W (w.heap.size + 2) 3 (.int .i64 60)) ∧ Below w.heap.size w W)
    (fun _ _ _ => False)
    (OwnFrom.and (OwnFrom.and (Own.from (holdsRow_own w.heap.size w.heap.size 28 9 1 (fun (pre : List Nat) => pre.length) (fun (pre : List Nat) => strs (pre.map (blockB l))) (fun _ _ => True)) _) (OwnFrom.and (Own.from (boxed_own _ _ _) _) (Own.from (boxed_own _ _ _) _))) (ownFrom_below (Nat.le_refl _) (by simp; omega)))
    (fun _ _ _ _ _ hs _ _ => hs)
    ⟨⟨⟨_, (bO.alloc _).alloc _, World.ownsRow_nil _ _ _ _, trivial⟩, bS.alloc _, bN⟩, hB0⟩
    (fun x => { tmps := #[.slice (some ⟨b, off, none⟩) n cap, undef, .slice none 0 0, .pointer (some ⟨w.heap.size, 0, none⟩), cutV b off n x, undef, .slice (some ⟨b, off, none⟩) n cap, .func (.func 50) #[] #[.pointer (some ⟨w.heap.size + 1, 0, none⟩), .pointer (some ⟨w.heap.size + 2, 0, none⟩)], cutV b off n x, undef, undef, undef, undef, undef, undef, undef, undef, undef, undef], defers := [] }) ?assign ?body ?done ?stop
  case assign =>
    intro l x W K hK
    gi_wp2
    exact hK
  case body =>
    rintro l' pre x W ⟨⟨⟨v, hv, hrow, _⟩, bS, bN⟩, hB⟩ hlt
    have hcv := run_cut hn (fun j u hj => (hB.cell (p := ⟨b, off + j, none⟩) hb).trans (hc j u hj)) x
    have hbx := hv.cell
    have hmx : Try.prog.follows .mixedOrders = true := by kernel_rfl
    have hps : (ByteArray.mk (pieceL l x).toArray).size ≤ 1048576 := by
      show (pieceL l x).toArray.size ≤ _
      unfold pieceL
      simp
      omega
    gi_wp2
    gi_region_with_o (first | (refine apIn_step (by assumption) (by rfl) (by rfl) ?_) | (refine ⟨trivial, ?_⟩; gi_at_call 43; refine (CallsIn.inRound l' (callsIn_wide.2 (sumOf_any _ _ hps))).mono ?_; rintro e w1 ⟨rfl, hb1⟩; obtain ⟨g, cap', w2, hrun, hbx1, hbx3, hbx2, hbf2, HF⟩ := seal_call (blockB l x) (by omega) hv hrow bS bN hB (Nat.le_refl _) (Nat.le_refl _) (by omega) (by omega) hb1; clear hb1))
    all_goals
      obtain ⟨k1, k2, ⟨⟨y, hy1, hy2, _⟩, s1, s2⟩, k3⟩ := HF.out
      refine ⟨k1, k2, ⟨⟨y, hy1, ?_, trivial⟩, s1, s2⟩, k3⟩
      rw [strs_snoc, List.length_append]
      exact hy2
  case done =>
    rintro D ys W hD rfl ⟨⟨⟨v, hv, hrow, _⟩, bS, bN⟩, hB⟩ hK
    have hcc := hv.cell
    gi_wp2
    refine ⟨by simp, .inl ⟨_, _, rfl, run_takeDeferred hK, ?_⟩⟩
    refine ⟨_, results_tmp rfl _ _ _, v, rfl, ?_, hB.trans (belowK_b (w := w) (Nat.le_refl _) W D _ _ (by simp at hD; omega) hK rfl rfl)⟩
    have := ownsRow_putObj hrow (.deferred none) hK rfl
    rw [starts_length] at this
    exact this
  case stop =>
    rintro D c pre W _ _ h _
    exact h.elim
end Go.Proofs.Ytbdnhccjlggpkaa

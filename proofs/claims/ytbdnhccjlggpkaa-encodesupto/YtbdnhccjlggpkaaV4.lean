import Derived.Test.YtbdnhccjlggpkaaV3
namespace Go.Proofs.Ytbdnhccjlggpkaa
open Go.RowKit Go.Shelf
/-- What readRecords answers. -/
def RPost (w : World) (d : Option (List RecB)) (e : Ending) (w' : World) : Prop :=
  match d with
  | some rs => ∃ v', e = .returned (.tuple #[v', .bool true]) ∧ w'.ownsRow w.heap.size 41 2 v' rs.length (recCells rs) ∧ Below w.heap.size w w'
  | none => e = .returned (.tuple #[.slice none 0 0, .bool false]) ∧ Below w.heap.size w w'
set_option maxHeartbeats 1000000 in
theorem values_in (d : Nat) (ao : Option Addr) (n c : Nat) (w : World) :
    CallsIn Fence.wide d Try.prog 46 #[.slice ao n c] w fun e w' => e = .returned (.func (.func 55) #[] #[.pointer (some ⟨w.heap.size, 0, none⟩)]) ∧ w' = w.alloc (.cells #[.slice ao n c] 28) := by
  refine callsIn_of_wp Try.func46 rfl trivial ?_ rfl
  simp only [Try.ntmps46, List.size_toArray, List.length_cons, List.length_nil, Nat.reduceAdd, Nat.reduceSub, Array.replicate_succ, Array.replicate_zero, List.push_toArray, List.append_toArray, List.nil_append, List.cons_append]
  gi_wp2
  go_ret
  exact ⟨rfl, rfl⟩
set_option maxHeartbeats 1000000 in
theorem entries_in (d : Nat) (lb : Array Value) (w : World) :
    CallsIn Fence.wide d Try.prog 45 #[.func (.func 55) #[] lb] w fun e w' => e = .returned (.func (.func 51) #[] #[.pointer (some ⟨w.heap.size, 0, none⟩)]) ∧ w' = w.alloc (.cells #[.func (.func 55) #[] lb] 87) := by
  refine callsIn_of_wp Try.func45 rfl trivial ?_ rfl
  simp only [Try.ntmps45, List.size_toArray, List.length_cons, List.length_nil, Nat.reduceAdd, Nat.reduceSub, Array.replicate_succ, Array.replicate_zero, List.push_toArray, List.append_toArray, List.nil_append, List.cons_append]
  gi_wp2
  go_ret
  exact ⟨rfl, rfl⟩
/-- The boxes that readRecords lays. -/
theorem rr_start {w W4 : World} {sv fv : Value} (e : (((w.alloc (.cells #[.slice none 0 0] 26)).alloc (.cells #[.bool false] 4)).alloc (.cells #[sv] 28)).alloc (.cells #[fv] 87) = W4) :
    W4.heap.size = w.heap.size + 4 ∧ Boxed W4 w.heap.size 26 (.slice none 0 0) ∧ Boxed W4 (w.heap.size + 1) 4 (.bool false) ∧ Boxed W4 (w.heap.size + 1 + 1) 28 sv ∧ Boxed W4 (w.heap.size + 1 + 1 + 1) 87 fv ∧ Below w.heap.size w W4 := by
  subst e
  have b1 := Boxed.new w 26 (.slice none 0 0)
  have b2 := Boxed.new (w.alloc (.cells #[.slice none 0 0] 26)) 4 (.bool false)
  rw [World.size_alloc] at b2
  have b3 := Boxed.new ((w.alloc (.cells #[.slice none 0 0] 26)).alloc (.cells #[.bool false] 4)) 28 sv
  rw [World.size_alloc, World.size_alloc] at b3
  have b4 := Boxed.new (((w.alloc (.cells #[.slice none 0 0] 26)).alloc (.cells #[.bool false] 4)).alloc (.cells #[sv] 28)) 87 fv
  rw [World.size_alloc, World.size_alloc, World.size_alloc] at b4
  exact ⟨by simp, ((b1.alloc _).alloc _).alloc _, (b2.alloc _).alloc _, b3.alloc _, b4, ((((Below.refl _ w).alloc (Nat.le_refl _) _).alloc (by simp) _).alloc (by simp; omega) _).alloc (by simp; omega) _⟩
/-- The loop's record is laid. -/
theorem rr_loop {w W4 W6 : World} {sv fv : Value} {r : Loop} (hs4 : W4.heap.size = w.heap.size + 4) (bL : Boxed W4 w.heap.size 26 (.slice none 0 0)) (bO : Boxed W4 (w.heap.size + 1) 4 (.bool false)) (bS : Boxed W4 (w.heap.size + 1 + 1) 28 sv) (bP : Boxed W4 (w.heap.size + 1 + 1 + 1) 87 fv) (hB4 : Below w.heap.size w W4)
    (e : (W4.alloc (.deferred (some []))).alloc (.loop r) = W6) :
    W6.heap.size = w.heap.size + 6 ∧ Boxed W6 (w.heap.size + 1 + 1 + 1) 87 fv ∧ ZR w sv (W4.heap.size + 1) W4.heap.size r [] W6 := by
  subst e
  have hl : ((W4.alloc (.deferred (some []))).alloc (.loop r)).heap[W4.heap.size + 1]? = some (.loop r) := by
    have := World.alloc_heap_new (W4.alloc (.deferred (some []))) (.loop r)
    rwa [World.size_alloc] at this
  have hD : ((W4.alloc (.deferred (some []))).alloc (.loop r)).heap[W4.heap.size]? = some (.deferred (some [])) := (Below.heap_alloc _ _ _ (by simp)).trans (World.alloc_heap_new W4 _)
  exact ⟨by simp [hs4], (bP.alloc _).alloc _, ⟨_, (bL.alloc _).alloc _, World.ownsRow_nil _ _ _ _⟩, (bO.alloc _).alloc _, (hB4.alloc (by omega) _).alloc (by simp; omega) _, hl, hD, (bS.alloc _).alloc _⟩
/-- A round begins: the entry is boxed, the record is busy. -/
theorem rr_begin {w W1 W2 : World} {sv lv a b c : Value} {l D : Nat} {r r' : Loop} {acc : List RecB} (hl : w.heap.size + 1 + 1 < l) (hv : Boxed W1 w.heap.size 26 lv) (hrow : W1.ownsRow w.heap.size 41 2 lv acc.length (recCells acc)) (hok : Boxed W1 (w.heap.size + 1) 4 (.bool false)) (hbel : Below w.heap.size w W1)
    (hl1 : W1.heap[l]? = some (.loop r)) (hS1 : Boxed W1 (w.heap.size + 1 + 1) 28 sv) (hD1 : W1.heap[D]? = some (.deferred (some []))) (hDl : D ≠ l) (e : (W1.alloc (.cells #[a, b, c] 90)).putObj l (.loop r') = W2) :
    BoxE W2 W1.heap.size a b c ∧ Boxed W2 w.heap.size 26 lv ∧ W2.ownsRow w.heap.size 41 2 lv acc.length (recCells acc) ∧ Boxed W2 (w.heap.size + 1) 4 (.bool false) ∧ Below w.heap.size w W2 ∧ W2.heap[l]? = some (.loop r') ∧ Boxed W2 (w.heap.size + 1 + 1) 28 sv ∧ W2.heap[D]? = some (.deferred (some [])) ∧ W2.heap.size = W1.heap.size + 1 ∧ (∀ i, i < W1.heap.size → i ≠ l → W2.heap[i]? = W1.heap[i]?) := by
  have hlt := (Array.getElem?_eq_some_iff.1 hl1).1
  have k : ∀ i, i < W1.heap.size → i ≠ l → W2.heap[i]? = W1.heap[i]? := fun i hi hne => by
    rw [← e]; exact (World.putObj_heap_other hne).trans (Below.heap_alloc _ _ _ hi)
  have hsz : W2.heap.size = W1.heap.size + 1 := by rw [← e]; simp
  refine ⟨?_, (k _ hv.lt (by omega)).trans hv, ?_, (k _ hok.lt (by omega)).trans hok, ?_, ?_, (k _ hS1.lt (by omega)).trans hS1, (k _ (Array.getElem?_eq_some_iff.1 hD1).1 hDl).trans hD1, hsz, k⟩
  · show W2.heap[W1.heap.size]? = some (.cells #[a, b, c] 90 (0, 0))
    rw [← e]; exact (World.putObj_heap_other (by omega)).trans (heap_alloc_new W1 _)
  · refine ⟨hrow.1, ?_⟩
    rcases hrow.2 with ⟨rfl, h0⟩ | ⟨g, cap, cur, rfl, k1, k2, k3⟩
    · exact Or.inl ⟨rfl, h0⟩
    · exact Or.inr ⟨g, cap, cur, rfl, k1, (k g (hrow.lt g rfl).2 (fun e2 => by subst e2; rw [hl1] at k2; cases k2)).trans k2, k3⟩
  · refine hbel.trans ⟨by rw [← e]; rfl, by rw [← e]; rfl, by rw [← e]; rfl, by omega, fun i hi => k i (by have := hbel.size; omega) (by omega)⟩
  · rw [← e]; exact World.putObj_heap_same (by simp; omega)
/-- A round ends: the record of the list is laid, the loop's record is ready. -/
theorem rr_end {w W1 W2 w2 : World} {sv lv v' : Value} {l D b B : Nat} {r r' : Loop} {acc : List RecB} {k v : ByteArray} (hl : w.heap.size + 1 + 1 < l) (hD : w.heap.size + 1 + 1 < D) (hDl : D ≠ l) (hlB : l < B) (hb : b < w.heap.size ∨ b = w.heap.size + 1 + 1)
    (hv : Boxed W2 w.heap.size 26 lv) (hrow : W2.ownsRow w.heap.size 41 2 lv acc.length (recCells acc)) (hok : Boxed W2 (w.heap.size + 1) 4 (.bool false)) (hbel : Below w.heap.size w W2) (hl2 : W2.heap[l]? = some (.loop r')) (hS2 : Boxed W2 (w.heap.size + 1 + 1) 28 sv) (hD2 : W2.heap[D]? = some (.deferred (some []))) (hs2 : W2.heap.size = W1.heap.size + 1) (hk2 : ∀ i, i < W1.heap.size → i ≠ l → W2.heap[i]? = W1.heap[i]?)
    (hown : w2.ownsRow w.heap.size 41 2 v' (acc.length + 1) (recCells acc ++ [.string k, .string v])) (hg : (W2.alloc (.cells #[.string k, .string v] 41)).grownBy w2 lv.ownBlock) :
    (w2.setCell ⟨w.heap.size, 0, none⟩ v').heap[l]? = some (.loop r') ∧ ZR w sv l D r (acc ++ [(k, v)]) ((w2.setCell ⟨w.heap.size, 0, none⟩ v').putObj l (.loop r)) ∧ KZ b B W1 ((w2.setCell ⟨w.heap.size, 0, none⟩ v').putObj l (.loop r)) := by
  have hsz2 := hg.size
  rw [World.size_alloc] at hsz2
  have hbs := hbel.size
  have nrow : ∀ i (o : Obj), W2.heap[i]? = some o → (∀ cur, o ≠ .cells cur 41 (0, 0)) → some i ≠ lv.ownBlock := fun i o ho hc e => by
    rcases hrow.2 with ⟨rfl, _⟩ | ⟨g, cap, cur, rfl, k1, k2, _⟩
    · cases e
    · cases e
      rw [k2] at ho; cases ho
      exact hc cur rfl
  have st : ∀ i (o : Obj), W2.heap[i]? = some o → (∀ cur, o ≠ .cells cur 41 (0, 0)) → w2.heap[i]? = some o := fun i o ho hc =>
    (hg.block i (by rw [World.size_alloc]; have := (Array.getElem?_eq_some_iff.1 ho).1; omega) (nrow i o ho hc)).trans ((Below.heap_alloc _ _ _ (Array.getElem?_eq_some_iff.1 ho).1).trans ho)
  have hp2 : Boxed w2 w.heap.size 26 lv := st _ _ hv (fun cur e => by cases e)
  have hl3 := st _ _ hl2 (fun cur e => by cases e)
  have hl4 : (w2.setCell ⟨w.heap.size, 0, none⟩ v').heap[l]? = some (.loop r') := (Below.heap_setCell w2 ⟨w.heap.size, 0, none⟩ v' l (by show l ≠ w.heap.size; omega)).trans hl3
  have oth : ∀ i, i ≠ w.heap.size → i ≠ l → ((w2.setCell ⟨w.heap.size, 0, none⟩ v').putObj l (.loop r)).heap[i]? = w2.heap[i]? := fun i h1 h2 => (World.putObj_heap_other h2).trans (Below.heap_setCell w2 ⟨w.heap.size, 0, none⟩ v' i h1)
  have e3 : recCells acc ++ [.string k, .string v] = recCells (acc ++ [(k, v)]) := by rw [recCells_append]; rfl
  have hown3 : w2.ownsRow w.heap.size 41 2 v' (acc ++ [(k, v)]).length (recCells (acc ++ [(k, v)])) := by rw [← e3, List.length_append]; exact hown
  refine ⟨hl4, ⟨⟨v', ?_, ?_⟩, (oth _ (by omega) (by omega)).trans (st _ _ hok (fun cur e => by cases e)), ?_, World.putObj_heap_same (Array.getElem?_eq_some_iff.1 hl4).1, (oth _ (by omega) hDl).trans (st _ _ hD2 (fun cur e => by cases e)), (oth _ (by omega) (by omega)).trans (st _ _ hS2 (fun cur e => by cases e))⟩, ?_⟩
  · have := hp2.set v'
    exact (World.putObj_heap_other (by omega)).trans this
  · refine ⟨hown3.1, ?_⟩
    rcases hown3.2 with ⟨rfl, h0⟩ | ⟨g, cap, cur, rfl, k1, k2, k3⟩
    · exact Or.inl ⟨rfl, h0⟩
    · refine Or.inr ⟨g, cap, cur, rfl, k1, (oth g (fun e => ?_) (fun e => ?_)).trans k2, k3⟩
      · subst e; rw [show w2.heap[w.heap.size]? = _ from hp2] at k2; simp at k2
      · subst e; rw [hl3] at k2; cases k2
  · have b2 : Below w.heap.size w w2 := (hbel.alloc hbs _).grown hg (by simp; omega) (fun i e => (hrow.lt i e).1)
    exact ⟨b2.os, b2.tape, b2.output, by have := b2.size; simpa using this, fun i hi => (oth i (by omega) (by omega)).trans (b2.block i hi)⟩
  · refine ⟨by simp; omega, fun i hi hc => ?_⟩
    have hne : i ≠ w.heap.size ∧ i ≠ l := by
      rcases hc with rfl | ⟨h1, _⟩
      · rcases hb with h | h <;> constructor <;> omega
      · constructor <;> omega
    rw [oth i hne.1 hne.2]
    have e1 := hk2 i hi hne.2
    obtain ⟨o, ho⟩ : ∃ o, W1.heap[i]? = some o := ⟨_, Array.getElem?_eq_getElem hi⟩
    rw [ho] at e1 ⊢
    rcases hc with rfl | ⟨h1, h2⟩
    · rcases hb with h | h
      · refine (hg.block i (by rw [World.size_alloc]; omega) (fun e => ?_)).trans ((Below.heap_alloc _ _ _ (by omega)).trans e1)
        have := (hrow.lt i e.symm).1
        omega
      · subst h
        exact st _ _ e1 (fun cur e => by rw [show W2.heap[w.heap.size + 1 + 1]? = _ from hS2] at e1; rw [e] at e1; simp at e1)
    · exact st _ _ e1 (fun cur e => h2 cur (by rw [ho, e]))
section
attribute [local go_sem] Oper.semAt_some
set_option maxRecDepth 100000 in
set_option maxHeartbeats 4000000 in
theorem readRecords_any {w : World} {B n : Nat} {sv : Value} {ps : List Pc} (hB : B ≤ w.heap.size) (hn : ps.length = n) (hmax : n ≤ 1048576) (h : Rd w B sv n (strs (ps.map (·.1)))) :
    Calls Try.prog 33 #[sv] w fun e w' => RPost w (ans (lists ps)) e w' := by
  have hmf : ∀ (fn : Fn) (first cap : Array Value) (w : World), (Instr.makeFunc fn first cap).run Try.prog w = .ok (.func fn first cap) w := fun _ _ _ _ => rfl
  obtain ⟨i0, hi0, hz0, hz1, hz2⟩ := info_parts info41
  obtain ⟨ao, cap, rfl⟩ : ∃ a c, sv = .slice a n c := by obtain ⟨ao, cap, rfl, _⟩ := h; exact ⟨_, _, rfl⟩
  refine (callsIn_wide (n := 10)).1 ?_
  refine callsIn_of_wp_marks Try.func33 rfl trivial ?_ rfl
  simp only [Try.ntmps33, List.size_toArray, List.length_cons, List.length_nil, Nat.reduceAdd, Nat.reduceSub, Array.replicate_succ, Array.replicate_zero, List.push_toArray, List.append_toArray, List.nil_append, List.cons_append]
  gi_wp2_with first | (refine ⟨trivial, ?_⟩; gi_at_call 46; refine (values_in _ _ _ _ _).mono ?_; rintro e w' ⟨rfl, rfl⟩) | (refine ⟨trivial, ?_⟩; gi_at_call 45; refine (entries_in _ _ _).mono ?_; rintro e w' ⟨rfl, rfl⟩)
  obtain ⟨W4, hW4⟩ : ∃ W4, (((w.alloc (.cells #[.slice none 0 0] 26)).alloc (.cells #[.bool false] 4)).alloc (.cells #[.slice ao n cap] 28)).alloc (.cells #[.func (.func 55) #[] #[.pointer (some ⟨w.heap.size + 1 + 1, 0, none⟩)]] 87) = W4 := ⟨_, rfl⟩
  obtain ⟨hs4, bL, bO, bS, bP, hB4⟩ := rr_start hW4
  rw [hW4]
  clear hW4
  refine wpIn_rangeFunc_raw (gf := 51) (lb := #[.pointer (some ⟨w.heap.size + 1 + 1 + 1, 0, none⟩)]) rfl (enters_of Try.func51 (by kernel_rfl) rfl) (by omega) ?_
  intro fn
  generalize hr : ({ state := .ready, pending := none, fn, tmps := _, params := _, assign := _, body := _, defers := W4.heap.size } : Loop) = r
  obtain ⟨W6, hW6⟩ : ∃ W6, (W4.alloc (.deferred (some []))).alloc (.loop r) = W6 := ⟨_, rfl⟩
  obtain ⟨hs6, bP6, hZ6⟩ := rr_loop hs4 bL bO bS bP hB4 hW6
  rw [hW6]
  clear hW6 bL bO bS bP hB4
  have hRd6 : Rd W6 w.heap.size (.slice ao n cap) n (strs (ps.map (·.1))) := Rd.below (Rd.mono h hB) hZ6.2.2.1
  obtain ⟨b, hb, hseq⟩ := vals_stops 8 (by omega) (w.heap.size + 1 + 1) w.heap.size n (.slice ao n cap) ps hn (by omega) W6 (by omega) (by omega) hZ6.2.2.2.2.2.cell hRd6
  refine (entries1_in (W4.heap.size + 1) (w.heap.size + 1 + 1 + 1) (w.heap.size + 1 + 1) n b ps hn hmax (ZR w (.slice ao n cap) (W4.heap.size + 1) W4.heap.size r) W6 (ZR.steady (by omega) (by omega) (by omega)) bP6.cell (by omega) hseq ?yield hZ6).mono ?after
  case yield =>
    rintro m acc k v pl W1 ⟨⟨lv, hv, hrow⟩, hok, hbel, hl1, hD1, hS1⟩ hal hsz hpl
    have hy := run_yield (P := Try.prog) (args := #[.agg #[.string k, .string v, pl]]) hl1 (by rw [← hr]; rfl)
    refine ⟨_, _, _, _, hy, roundIn_of_wpIn trivial ?_⟩
    clear hy
    have hrs : r.state = .ready := by rw [← hr]
    have hrp : r.pending = none := by rw [← hr]
    have ht := congrArg Loop.tmps hr
    have hpr := congrArg Loop.params hr
    have has := congrArg Loop.assign hr
    have hbo := congrArg Loop.body hr
    dsimp only at ht hpr has hbo
    rw [← ht, ← hpr, ← has, ← hbo]
    clear hr ht hpr has hbo
    obtain ⟨la, lc, rfl⟩ : ∃ a c, lv = .slice a acc.length c := by
      rcases hrow.2 with ⟨rfl, h⟩ | ⟨g, cap, cur, rfl, _⟩
      · exact ⟨none, 0, by rw [h]⟩
      · exact ⟨_, _, rfl⟩
    rcases hpl with rfl | ⟨pt, pv, rfl⟩
    · skip
      gi_wp2
      obtain ⟨W2, hW2⟩ : ∃ W2, (W1.alloc (.cells #[.string k, .string v, .nilIface] 90)).putObj (W4.heap.size + 1) (.loop { r with state := .busy }) = W2 := ⟨_, rfl⟩
      refine ⟨W2, by rw [← hW2]; exact run_beginRound ((Below.heap_alloc _ _ _ (Array.getElem?_eq_some_iff.1 hl1).1).trans hl1) hrs, ?_⟩
      obtain ⟨hE, hv2, hrow2, hok2, hbel2, hl2, hS2, hD2, hs2, hk2⟩ := rr_begin (by omega) hv hrow hok hbel hl1 hS1 hD1 (by omega) hW2
      clear hW2
      have e0 := hE.c0
      have e1 := hE.c1
      have pc := hv2.cell
      have HS : Hid (W4.heap.size = w.heap.size + 4 ∧ W2.heap.size = W1.heap.size + 1 ∧ W6.heap.size = w.heap.size + 6) := ⟨hs4, hs2, hs6⟩
      clear hs4 hs2 hs6
      gi_wp2_with (gi_at_builtin; refine wpListIn_append_own _ rfl (.tmp 10) (.tmp 13) 26 rfl w.heap.size 41 i0 _ 2 32 Try.underlying26 hi0 hz0 hz1 hz2 rfl (by decide) _ acc.length _ rfl (hrow2.alloc _) ⟨W2.heap.size, 0, none⟩ 1 1 [.string k, .string v] rfl rfl (World.news_of_block (cs := #[.string k, .string v]) (t := 41) (fr := (0, 0)) (heap_alloc_new W2 _)) (by simp [Value.oneCell']) (by unfold maxLen; omega) (by omega) (by have := hbel2.size; simp; omega) ?_; intro v' w2 hown2 hg2 _; obtain ⟨g', cap', rfl⟩ := ownsRow_succ hown2; obtain ⟨hs4, hs2, hs6⟩ := HS.out; obtain ⟨H1, H2, H3⟩ := rr_end (B := W6.heap.size) (b := b) (r := r) (by omega) (by omega) (by omega) (by omega) hb hv2 hrow2 hok2 hbel2 hl2 hS2 hD2 hs2 hk2 hown2 hg2; have hp3 := (hv2.alloc (.cells #[.string k, .string v] 41)).kept hg2 (hv2.not_row (by decide) hrow2); have pc3 := hp3.cell; have pf3 := hp3.frozen; have HH : Hid (_ ∧ _ ∧ _) := ⟨H1, H2, H3⟩; clear H1 H2 H3 hg2 hown2 hs4 hs2 hs6)
      obtain ⟨H1, H2, H3⟩ := HH.out
      have he := run_endRound (P := Try.prog) none H1
      have er : ({ ({ r with state := .busy } : Loop) with state := if (none : Option Code).isNone then .ready else .done, pending := none } : Loop) = r := by
        cases r
        simp only at hrs hrp
        subst hrs hrp
        rfl
      rw [er] at he
      exact ⟨_, _, he, rfl, H2, H3⟩
    · skip
      gi_wp2
      obtain ⟨W2, hW2⟩ : ∃ W2, (W1.alloc (.cells #[.string k, .string v, .iface pt pv] 90)).putObj (W4.heap.size + 1) (.loop { r with state := .busy }) = W2 := ⟨_, rfl⟩
      refine ⟨W2, by rw [← hW2]; exact run_beginRound ((Below.heap_alloc _ _ _ (Array.getElem?_eq_some_iff.1 hl1).1).trans hl1) hrs, ?_⟩
      obtain ⟨hE, hv2, hrow2, hok2, hbel2, hl2, hS2, hD2, hs2, hk2⟩ := rr_begin (by omega) hv hrow hok hbel hl1 hS1 hD1 (by omega) hW2
      clear hW2
      have e0 := hE.c0
      have e1 := hE.c1
      have pc := hv2.cell
      have HS : Hid (W4.heap.size = w.heap.size + 4 ∧ W2.heap.size = W1.heap.size + 1 ∧ W6.heap.size = w.heap.size + 6) := ⟨hs4, hs2, hs6⟩
      clear hs4 hs2 hs6
      gi_wp2_with (gi_at_builtin; refine wpListIn_append_own _ rfl (.tmp 10) (.tmp 13) 26 rfl w.heap.size 41 i0 _ 2 32 Try.underlying26 hi0 hz0 hz1 hz2 rfl (by decide) _ acc.length _ rfl (hrow2.alloc _) ⟨W2.heap.size, 0, none⟩ 1 1 [.string k, .string v] rfl rfl (World.news_of_block (cs := #[.string k, .string v]) (t := 41) (fr := (0, 0)) (heap_alloc_new W2 _)) (by simp [Value.oneCell']) (by unfold maxLen; omega) (by omega) (by have := hbel2.size; simp; omega) ?_; intro v' w2 hown2 hg2 _; obtain ⟨g', cap', rfl⟩ := ownsRow_succ hown2; obtain ⟨hs4, hs2, hs6⟩ := HS.out; obtain ⟨H1, H2, H3⟩ := rr_end (B := W6.heap.size) (b := b) (r := r) (by omega) (by omega) (by omega) (by omega) hb hv2 hrow2 hok2 hbel2 hl2 hS2 hD2 hs2 hk2 hown2 hg2; have hp3 := (hv2.alloc (.cells #[.string k, .string v] 41)).kept hg2 (hv2.not_row (by decide) hrow2); have pc3 := hp3.cell; have pf3 := hp3.frozen; have HH : Hid (_ ∧ _ ∧ _) := ⟨H1, H2, H3⟩; clear H1 H2 H3 hg2 hown2 hs4 hs2 hs6)
      obtain ⟨H1, H2, H3⟩ := HH.out
      have he := run_endRound (P := Try.prog) none H1
      have er : ({ ({ r with state := .busy } : Loop) with state := if (none : Option Code).isNone then .ready else .done, pending := none } : Loop) = r := by
        cases r
        simp only at hrs hrp
        subst hrs hrp
        rfl
      rw [er] at he
      exact ⟨_, _, he, rfl, H2, H3⟩
  case after =>
    have hrs : r.state = .ready := by rw [← hr]
    have hrp : r.pending = none := by rw [← hr]
    clear hr hseq hZ6 hRd6 bP6
    have HS : Hid (W4.heap.size = w.heap.size + 4 ∧ W6.heap.size = w.heap.size + 6) := ⟨hs4, hs6⟩
    clear hs4 hs6
    intro e W' hp
    cases ha : ans (lists ps) with
    | none =>
      rw [ha] at hp
      obtain ⟨rfl, acc, ⟨lv, hv, hrow⟩, hok, hbel, hl, hD, hS⟩ := hp
      show LeavesInM Fence.wide 10 Try.prog Try.f33 _ _ _ _ _
      refine ⟨by simp, .inl ⟨_, _, rfl, run_takeDeferred hD, ?_⟩⟩
      have hs4 := HS.out.1
      have v1 : Boxed (W'.putObj W4.heap.size (.deferred none)) w.heap.size 26 lv := (World.putObj_heap_other (by omega)).trans hv
      have o1 : Boxed (W'.putObj W4.heap.size (.deferred none)) (w.heap.size + 1) 4 (.bool false) := (World.putObj_heap_other (by omega)).trans hok
      have b1 : Below w.heap.size w (W'.putObj W4.heap.size (.deferred none)) := hbel.trans ((Below.refl _ W').grown (grownBy_putObj' W' W4.heap.size _) (by have := hbel.size; omega) (fun i e => by cases e; omega))
      generalize W'.putObj W4.heap.size (.deferred none) = W7 at *
      refine ⟨by simp, .inr ⟨fun _ => by omega, .func 44, #[.pointer (some ⟨w.heap.size, 0, none⟩), .pointer (some ⟨w.heap.size + 1, 0, none⟩)], 44, #[.pointer (some ⟨w.heap.size, 0, none⟩), .pointer (some ⟨w.heap.size + 1, 0, none⟩)], rfl, by simp [invoke, go_sem], fun _ _ => trivial, ?_⟩⟩
      refine (catch_panicking _ w.heap.size (w.heap.size + 1) _ _ 29 _ [] W7 v1 o1 (by omega)).mono ?_
      rintro e u' w'' ⟨rfl, rfl, rfl⟩
      have q1 := (v1.set (.slice none 0 0)).cell
      have q2 := ((o1.other (B' := w.heap.size) (by omega) (.slice none 0 0)).set (.bool false)).cell
      have b2 := (b1.setCell (p := ⟨w.heap.size, 0, none⟩) (Nat.le_refl _) (.slice none 0 0)).setCell (p := ⟨w.heap.size + 1, 0, none⟩) (Nat.le_succ _) (.bool false)
      simp [LeavesInM, LeavesIn, settle, results, Try.results33, go_sem, q1, q2, RPost, ha, b2]
    | some acc =>
      rw [ha] at hp
      obtain ⟨⟨v, rfl⟩, ⟨lv, hv, hrow⟩, hok, hbel, hl, hD, hS⟩ := hp
      have he := run_endLoop (P := Try.prog) hl (by rw [hrs]; simp)
      generalize ({ r with state := .exhausted } : Loop) = r5 at he
      rw [hrp] at he
      refine ⟨none, _, he, ?_⟩
      have hs4 := HS.out.1
      have hv5 : Boxed (W'.putObj (W4.heap.size + 1) (.loop r5)) w.heap.size 26 lv := (World.putObj_heap_other (by omega)).trans hv
      have ho5 : Boxed (W'.putObj (W4.heap.size + 1) (.loop r5)) (w.heap.size + 1) 4 (.bool false) := (World.putObj_heap_other (by omega)).trans hok
      have hb5 : Below w.heap.size w (W'.putObj (W4.heap.size + 1) (.loop r5)) := hbel.trans ((Below.refl _ W').grown (grownBy_putObj' W' (W4.heap.size + 1) _) (by have := hbel.size; omega) (fun i e => by cases e; omega))
      have hD5 : (W'.putObj (W4.heap.size + 1) (.loop r5)).heap[W4.heap.size]? = some (.deferred (some [])) := (World.putObj_heap_other (by omega)).trans hD
      have hr5 : (W'.putObj (W4.heap.size + 1) (.loop r5)).ownsRow w.heap.size 41 2 lv acc.length (recCells acc) := ownsRow_putObj hrow _ hl rfl
      clear he
      generalize W'.putObj (W4.heap.size + 1) (.loop r5) = W7 at *
      obtain ⟨la, lc, rfl⟩ : ∃ a c, lv = .slice a acc.length c := by
        rcases hrow.2 with ⟨rfl, h⟩ | ⟨g, cap, cur, rfl, _⟩
        · exact ⟨none, 0, by rw [h]⟩
        · exact ⟨_, _, rfl⟩
      have c1 := hv5.cell
      have f1 := hv5.frozen
      have c2 := ho5.cell
      have f2 := ho5.frozen
      have HS4 : Hid (W4.heap.size = w.heap.size + 4) := hs4
      clear hs4 hv hok hbel hD hrow hl hS
      show Exit.inBlock 0 _ Exit.normal _ _
      gi_wp2
      have hs4 := HS4.out
      have hK7 : ((W7.setCell ⟨w.heap.size, 0, none⟩ (.slice la acc.length lc)).setCell ⟨w.heap.size + 1, 0, none⟩ (.bool true)).heap[W4.heap.size]? = some (.deferred (some [])) :=
        (Below.heap_setCell _ ⟨w.heap.size + 1, 0, none⟩ _ _ (by show W4.heap.size ≠ w.heap.size + 1; omega)).trans ((Below.heap_setCell _ ⟨w.heap.size, 0, none⟩ _ _ (by show W4.heap.size ≠ w.heap.size; omega)).trans hD5)
      refine ⟨by simp, .inl ⟨_, _, rfl, run_takeDeferred hK7, ?_⟩⟩
      have q1 := (hv5.set (.slice la acc.length lc)).other (B' := w.heap.size + 1) (by omega) (.bool true)
      have q2 := (ho5.other (B' := w.heap.size) (by omega) (.slice la acc.length lc)).set (.bool true)
      have b2 := (hb5.setCell (p := ⟨w.heap.size, 0, none⟩) (Nat.le_refl _) (.slice la acc.length lc)).setCell (p := ⟨w.heap.size + 1, 0, none⟩) (Nat.le_succ _) (.bool true)
      have o2 : ((W7.setCell ⟨w.heap.size, 0, none⟩ (.slice la acc.length lc)).setCell ⟨w.heap.size + 1, 0, none⟩ (.bool true)).ownsRow w.heap.size 41 2 (.slice la acc.length lc) acc.length (recCells acc) :=
        (hr5.kept (grownBy_setCell' W7 w.heap.size _) (.inr (Ne.symm (hv5.not_row (by decide) hr5)))).kept (grownBy_setCell' _ (w.heap.size + 1) _) (.inr (Ne.symm (ho5.not_row (by decide) hr5)))
      generalize (W7.setCell ⟨w.heap.size, 0, none⟩ (.slice la acc.length lc)).setCell ⟨w.heap.size + 1, 0, none⟩ (.bool true) = W8 at *
      have q1' : Boxed (W8.putObj W4.heap.size (.deferred none)) w.heap.size 26 (.slice la acc.length lc) := (World.putObj_heap_other (by omega)).trans q1
      have q2' : Boxed (W8.putObj W4.heap.size (.deferred none)) (w.heap.size + 1) 4 (.bool true) := (World.putObj_heap_other (by omega)).trans q2
      have b2' : Below w.heap.size w (W8.putObj W4.heap.size (.deferred none)) := b2.trans ((Below.refl _ W8).grown (grownBy_putObj' W8 W4.heap.size _) (by have := b2.size; omega) (fun i e => by cases e; omega))
      have o2' : (W8.putObj W4.heap.size (.deferred none)).ownsRow w.heap.size 41 2 (.slice la acc.length lc) acc.length (recCells acc) := ownsRow_putObj o2 _ hK7 rfl
      generalize W8.putObj W4.heap.size (.deferred none) = W9 at *
      refine ⟨by simp, .inr ⟨fun _ => by omega, .func 44, #[.pointer (some ⟨w.heap.size, 0, none⟩), .pointer (some ⟨w.heap.size + 1, 0, none⟩)], 44, #[.pointer (some ⟨w.heap.size, 0, none⟩), .pointer (some ⟨w.heap.size + 1, 0, none⟩)], rfl, by simp [invoke, go_sem], fun _ _ => trivial, ?_⟩⟩
      refine (catch_idle _ _ _ W9).mono ?_
      rintro e u' w'' ⟨rfl, rfl, rfl⟩
      have z1 := q1'.cell
      have z2 := q2'.cell
      simp [LeavesInM, LeavesIn, settle, results, Try.results33, go_sem, z1, z2, RPost, ha]
      exact ⟨o2', b2'⟩
end
end Go.Proofs.Ytbdnhccjlggpkaa

import Derived.Test.YtbdnhccjlggpkaaV
namespace Go.Proofs.Ytbdnhccjlggpkaa
open Go.RowKit Go.Shelf
/-- What another's iterator may do beside a loop that collects records: below B, and rows of records, lie as they lay. -/
structure FrZ (B : Nat) (A A' : World) : Prop where
  os : A'.os = A.os
  tape : A'.tape = A.tape
  output : A'.output = A.output
  size : A.heap.size ≤ A'.heap.size
  block : ∀ i, i < A.heap.size → (i < B ∨ ∃ cur, A.heap[i]? = some (.cells cur 41 (0, 0))) → A'.heap[i]? = A.heap[i]?
theorem FrZ.of_Fr {B Br : Nat} {A A' : World} (hB : B ≤ Br) (hbr : ∀ cur, A.heap[Br]? ≠ some (.cells cur 41 (0, 0))) (h : Fr B Br A A') : FrZ B A A' :=
  ⟨h.os, h.tape, h.output, h.size, fun i hi hc => h.block i hi (fun e => by
    subst e
    rcases hc with hc | ⟨cur, hc⟩
    · omega
    · exact hbr cur hc) (fun hBi cur e => by
    rcases hc with hc | ⟨cur', hc⟩
    · omega
    · rw [hc] at e; simp at e)⟩
theorem FrZ.of_grown {B : Nat} {A A' : World} {row : Option Nat} (hg : A.grownBy A' row) (hr : ∀ r, row = some r → B ≤ r ∧ ∀ cur, A.heap[r]? ≠ some (.cells cur 41 (0, 0))) : FrZ B A A' :=
  ⟨hg.os, hg.tape, hg.output, hg.size, fun i hi hc => hg.block i hi (fun e => by
    obtain ⟨h1, h2⟩ := hr i e.symm
    rcases hc with hc | ⟨cur, hc⟩
    · omega
    · exact h2 cur hc)⟩
/-- What a loop that collects records does: the row b, and from B on all but rows of records, lies as it lay. -/
structure KZ (b B : Nat) (W W' : World) : Prop where
  size : W.heap.size ≤ W'.heap.size
  block : ∀ i, i < W.heap.size → (i = b ∨ (B ≤ i ∧ ∀ cur, W.heap[i]? ≠ some (.cells cur 41 (0, 0)))) → W'.heap[i]? = W.heap[i]?
theorem Rdr.keepZ {W W' : World} {B Br n₀ : Nat} {l : List UInt8} {s x : Bool} (h : Rdr W B Br l s x) (hB : B ≤ Br) (hk : KZ n₀ B W W') : Rdr W' B Br l s x := by
  obtain ⟨sv, hb, hs⟩ := h
  refine ⟨sv, (hk.block Br hb.lt (Or.inr ⟨hB, fun cur e => ?_⟩)).trans hb, hs.keep fun b cur hBb hc => (hk.block b (Array.getElem?_eq_some_iff.1 hc).1 (Or.inr ⟨hBb, fun cur' e => ?_⟩)).trans hc⟩
  · rw [show W.heap[Br]? = _ from hb] at e; simp at e
  · rw [hc] at e; simp at e
theorem RoundIn.deep {m m' : Nat} {P : Program} {l : Nat} {f : FuncId} {tmps : Array Value} {assign body : Code} {w : World} {R : Ending → World → Prop}
    (h : RoundIn Fence.wide m P l f tmps assign body w R) : RoundIn Fence.wide m' P l f tmps assign body w R := ⟨h.1, fun c cs _ => h.2 c cs (by simp [Fence.room, Fence.wide])⟩
theorem YieldAt.deep {m : Nat} (m' : Nat) {P : Program} {l : Nat} {args : Array Value} {W : World} {R : Ending → World → Prop} (h : YieldAt Fence.wide m P l args W R) : YieldAt Fence.wide m' P l args W R := by
  obtain ⟨fn, tmps, assign, body, hy, hR⟩ := h
  exact ⟨fn, tmps, assign, body, hy, RoundIn.deep hR⟩
/-- What came, as lists. -/
def lists (pre : List Pc) : List (List UInt8) := pre.map fun x => x.1.data.toList
theorem lists_snoc (pre : List Pc) (x : Pc) : lists (pre ++ [x]) = lists pre ++ [x.1.data.toList] := by simp [lists]
theorem lists_len (pre : List Pc) : (lists pre).flatten.length ≤ pre.length * 60 := by
  induction pre with
  | nil => simp [lists]
  | cons x pre ih =>
    have e : lists (x :: pre) = x.1.data.toList :: lists pre := rfl
    have h1 : x.1.data.toList.length ≤ 60 := x.2
    rw [e, List.flatten_cons, List.length_append, List.length_cons]
    omega
/-- What lies between two pieces. -/
def IE (Z : List RecB → World → Prop) (l B : Nat) (pre : List Pc) (W : World) : Prop :=
  ∃ acc rest short wrong, Inv (lists pre) acc rest short wrong ∧ (wrong = false → whole rest = none) ∧ Rdr W B (B + 1) rest short wrong ∧ Z acc W ∧ Boxed W B 95 (.func (.yield l) #[] #[])
def Steady (B : Nat) (Z : List RecB → World → Prop) : Prop := ∀ acc A A', Z acc A → FrZ B A A' → Z acc A'
theorem IE.own {Z : List RecB → World → Prop} {l B B' : Nat} (hB : B ≤ B') (hZ : Steady B Z) : OwnFrom B' (IE Z l B) := by
  rintro pre W W' row ⟨acc, rest, short, wrong, hI, hw, hR, hz, hb⟩ hg hr
  have hne : ∀ i (o : Obj), W.heap[i]? = some o → o.isCells = true → W'.heap[i]? = some o := fun i o ho hc => by
    refine (hg.block i (Array.getElem?_eq_some_iff.1 ho).1 (fun e => ?_)).trans ho
    obtain ⟨_, o', ho', hc'⟩ := hr i e.symm
    rw [ho] at ho'; cases ho'; rw [hc] at hc'; cases hc'
  refine ⟨acc, rest, short, wrong, hI, hw, ?_, hZ acc W W' hz (FrZ.of_grown hg fun r e => ?_), ?_⟩
  · obtain ⟨sv, hx, hs⟩ := hR
    exact ⟨sv, hne _ _ hx rfl, hs.keep fun b cur _ hc => hne _ _ hc rfl⟩
  · obtain ⟨h1, o, ho, hc⟩ := hr r e
    exact ⟨by omega, fun cur e2 => by rw [ho] at e2; cases e2; cases hc⟩
  · exact hne _ _ hb rfl
/-- What the reader panics with. -/
def pch : List PanicEntry := [{ v := .iface 29 (.int .i64 4), recovered := false }]
/-- What is told of the records of pieces. -/
def EPost (Z : List RecB → World → Prop) (a : Option (List RecB)) (e : Ending) (W' : World) : Prop :=
  match a with
  | some acc => (∃ v, e = .returned v) ∧ Z acc W'
  | none => e = .panicked pch ∧ ∃ acc, Z acc W'
theorem keeps_Fr {B B' Br : Nat} {W W' : World} (hb : ∀ (o : Obj), W.heap[Br]? = some o → o.isCells = true) (h : Fr B Br W W') : KeepsFrom B' W W' :=
  ⟨h.size, fun k o _ hk hc => by
    refine (h.block k (Array.getElem?_eq_some_iff.1 hk).1 (fun e => ?_) (fun _ cur e => ?_)).trans hk
    · subst e; rw [hb o hk] at hc; cases hc
    · rw [hk] at e; cases e; cases hc⟩
theorem keeps_KZ {n₀ B B' : Nat} {W W' : World} (hB : B ≤ B') (h : KZ n₀ B W W') : KeepsFrom B' W W' :=
  ⟨h.size, fun k o hBk hk hc => (h.block k (Array.getElem?_eq_some_iff.1 hk).1 (Or.inr ⟨by omega, fun cur e => by rw [hk] at e; cases e; cases hc⟩)).trans hk⟩
theorem KB.of_Fr {B Br b : Nat} {W W' : World} (hb : b < B) (hB : B ≤ Br) (hs : B ≤ W.heap.size) (h : Fr B Br W W') : KB b W W' := h.block b (by omega) (by omega) (fun h1 => by omega)
theorem KB.of_KZ {B b : Nat} {W W' : World} (hb : b < W.heap.size) (h : KZ b B W W') : KB b W W' := h.block b hb (Or.inl rfl)
def leftR (Br : Nat) (w : World) : Nat := match w.cell? ⟨Br, 0, none⟩ with | some (.slice _ n _) => n | _ => 0
theorem leftR_of {W : World} {B Br : Nat} {l : List UInt8} {s x : Bool} (h : Rdr W B Br l s x) : leftR Br W = l.length := by
  obtain ⟨sv, hb, hs⟩ := h
  obtain ⟨ao, cap, rfl, _⟩ := hs.len
  unfold leftR
  rw [hb.c0]
theorem Rdr.cells {W : World} {B Br : Nat} {l : List UInt8} {s x : Bool} (h : Rdr W B Br l s x) (o : Obj) (ho : W.heap[Br]? = some o) : o.isCells = true := by
  obtain ⟨sv, hb, _⟩ := h
  rw [show W.heap[Br]? = _ from hb] at ho; cases ho; rfl
theorem Rdr.not41 {W : World} {B Br : Nat} {l : List UInt8} {s x : Bool} (h : Rdr W B Br l s x) (cur : Array Value) : W.heap[Br]? ≠ some (.cells cur 41 (0, 0)) := by
  obtain ⟨sv, hb, _⟩ := h
  intro e
  rw [show W.heap[Br]? = _ from hb] at e; simp at e
/-- What lies in a round; W is where the round began. -/
structure Mid (Z : List RecB → World → Prop) (l B b : Nat) (acc : List RecB) (rest : List UInt8) (short wrong : Bool) (W W' : World) : Prop where
  rdr : Rdr W' B (B + 1) rest short wrong
  z : Z acc W'
  box : Boxed W' B 95 (.func (.yield l) #[] #[])
  keeps : KeepsFrom (B + 2) W W'
  kb : KB b W W'
section
variable {Z : List RecB → World → Prop} {l B b : Nat} {acc : List RecB} {rest : List UInt8} {short wrong : Bool} {W W' W2 : World}
theorem Mid.size (h : Mid Z l B b acc rest short wrong W W') : B + 1 < W'.heap.size := h.rdr.lt
theorem boxed_not41 {W : World} {R : Nat} {v : Value} (h : Boxed W R 95 v) (cur : Array Value) : W.heap[R]? ≠ some (.cells cur 41 (0, 0)) := by
  intro e
  rw [show W.heap[R]? = _ from h] at e
  simp at e
theorem BoxE.not41 {W : World} {R : Nat} {x y t : Value} (h : BoxE W R x y t) (cur : Array Value) : W.heap[R]? ≠ some (.cells cur 41 (0, 0)) := by
  intro e
  rw [show W.heap[R]? = _ from h] at e
  simp at e
theorem Mid.fed (hZ : Steady B Z) (hb : b < B) {rest' : List UInt8} {short' wrong' : Bool} (hz : Z acc W) (hR : Rdr W B (B + 1) rest' short' wrong') (hbx : Boxed W B 95 (.func (.yield l) #[] #[])) (hf : Fr B (B + 1) W W') (hR' : Rdr W' B (B + 1) rest short wrong) : Mid Z l B b acc rest short wrong W W' := by
  have hlt := hR.lt
  refine ⟨hR', hZ acc W W' hz (FrZ.of_Fr (by omega) hR.not41 hf), (hf.block B (by omega) (by omega) (fun _ cur e => ?_)).trans hbx, keeps_Fr hR.cells hf, KB.of_Fr hb (by omega) (by omega) hf⟩
  rw [show W.heap[B]? = _ from hbx] at e
  simp at e
theorem Mid.none (hZ : Steady B Z) (hb : b < B) (h : Mid Z l B b acc rest short wrong W W') (hg : W'.grownBy W2 none) : Mid Z l B b acc rest short wrong W W2 := by
  have hlt := h.size
  have e : ∀ i o, W'.heap[i]? = some o → W2.heap[i]? = some o := fun i o ho => (hg.block i (Array.getElem?_eq_some_iff.1 ho).1 (fun e => by cases e)).trans ho
  exact ⟨h.rdr.keep hg, hZ acc W' W2 h.z (FrZ.of_grown hg (fun r e => by cases e)), e _ _ h.box, h.keeps.trans ⟨hg.size, fun k o _ hk _ => e _ _ hk⟩, h.kb.trans (hg.block b (by omega) (fun e => by cases e))⟩
theorem Mid.read (hZ : Steady B Z) (hb : b < B) {rest' : List UInt8} {short' wrong' : Bool} (h : Mid Z l B b acc rest short wrong W W') (hg : W'.grownBy W2 (some (B + 1))) (hR : Rdr W2 B (B + 1) rest' short' wrong') : Mid Z l B b acc rest' short' wrong' W W2 := by
  have hlt := h.size
  refine ⟨hR, hZ acc W' W2 h.z (FrZ.of_grown hg (fun r e => by cases e; exact ⟨by omega, h.rdr.not41⟩)), (hg.block B (by omega) (by simp)).trans h.box, h.keeps.trans ⟨hg.size, fun k o _ hk hc => ?_⟩, h.kb.trans (hg.block b (by omega) (fun e => by cases e; omega))⟩
  refine (hg.block k (Array.getElem?_eq_some_iff.1 hk).1 (fun e => ?_)).trans hk
  cases e
  rw [h.rdr.cells o hk] at hc; cases hc
theorem Mid.setE (hZ : Steady B Z) (hb : b < B) {E o : Nat} {x y t u : Value} (hE : B + 1 < E) (hx : BoxE W' E x y t) (h : Mid Z l B b acc rest short wrong W W') : Mid Z l B b acc rest short wrong W (W'.setCell ⟨E, o, Option.none⟩ u) := by
  refine ⟨h.rdr.setE hx, hZ acc W' _ h.z (FrZ.of_grown (grownBy_setCell2 W' E o u) (fun r e => by cases e; exact ⟨by omega, hx.not41⟩)), (Below.heap_setCell W' ⟨E, o, Option.none⟩ u B (by show B ≠ E; omega)).trans h.box, h.keeps.trans ((KeepsOthers.setCell W' _ u).from _), h.kb.trans (Below.heap_setCell W' ⟨E, o, Option.none⟩ u b (by show b ≠ E; omega))⟩
theorem Mid.yield {acc' : List RecB} (hb : b < B) (h : Mid Z l B b acc rest short wrong W W') (hz : Z acc' W2) (hk : KZ b B W' W2) : Mid Z l B b acc' rest short wrong W W2 := by
  have hlt := h.size
  exact ⟨h.rdr.keepZ (by omega) hk, hz, (hk.block B (by omega) (Or.inr ⟨Nat.le_refl _, boxed_not41 h.box⟩)).trans h.box, h.keeps.trans (keeps_KZ (by omega) hk), h.kb.trans (KB.of_KZ (by omega) hk)⟩
/-- The box of an entry is laid. -/
theorem Mid.lay (hZ : Steady B Z) (hb : b < B) (h : Mid Z l B b acc rest short wrong W W') (k v pl : Value) :
    Mid Z l B b acc rest short wrong W (W'.alloc (.cells #[k, v, pl] 90)) ∧ BoxE (W'.alloc (.cells #[k, v, pl] 90)) W'.heap.size k v pl :=
  ⟨h.none hZ hb (World.grownBy_alloc W' _ Option.none), heap_alloc_new W' _⟩
end
section
attribute [local go_sem] Oper.semAt_some
set_option maxRecDepth 100000 in
set_option maxHeartbeats 4000000 in
theorem entries1_in (l Bp Bs n b : Nat) (ss : List Pc) (hn : ss.length = n) (hmax : n ≤ 1048576) (Z : List RecB → World → Prop) (W : World) (hZ : Steady W.heap.size Z)
    (hBp : W.cell? ⟨Bp, 0, none⟩ = some (.func (.func 55) #[] #[.pointer (some ⟨Bs, 0, none⟩)])) (hbn : b < W.heap.size)
    (hseq : SeqStopsK Fence.wide 8 Try.prog 55 #[.pointer (some ⟨Bs, 0, none⟩)] (fun x : Pc => #[.string x.1]) (KB b) (fun ys => ys = ss) (fun _ => True) n W)
    (hY : ∀ m acc k v pl W1, Z acc W1 → acc.length ≤ 62914560 → W.heap.size ≤ W1.heap.size → (pl = .nilIface ∨ ∃ t u, pl = .iface t u) → YieldAt Fence.wide m Try.prog l #[.agg #[.string k, .string v, pl]] W1 fun e W' => e = .returned (.bool true) ∧ Z (acc ++ [(k, v)]) W' ∧ KZ b W.heap.size W1 W')
    (h0 : Z [] W) :
    CallsIn Fence.wide 9 Try.prog 51 #[.func (.yield l) #[] #[], .pointer (some ⟨Bp, 0, none⟩)] W fun e W' => EPost Z (ans (lists ss)) e W' := by
  have hlt := block_lt_of_cell hBp
  have hBp2 : ((W.alloc (.cells #[.func (.yield l) #[] #[]] 95)).alloc (.cells #[.slice none 0 0, .bool false, .bool false] 97)).cell? ⟨Bp, 0, none⟩ = some (.func (.func 55) #[] #[.pointer (some ⟨Bs, 0, none⟩)]) :=
    (World.cell?_of_block (a := ⟨Bp, 0, none⟩) ((Below.heap_alloc _ _ _ (by have hl2 : Bp < W.heap.size := hlt; simp; omega)).trans (Below.heap_alloc _ _ _ hlt))).trans hBp
  refine callsIn_of_wp_marks Try.func51 rfl trivial ?_ rfl
  simp only [Try.ntmps51, List.size_toArray, List.length_cons, List.length_nil, Nat.reduceAdd, Nat.reduceSub, Array.replicate_succ, Array.replicate_zero, List.push_toArray, List.append_toArray, List.nil_append, List.cons_append]
  gi_wp2
  have bY := Boxed.new W 95 (.func (.yield l) #[] #[])
  have hRd : Rdr ((W.alloc (.cells #[.func (.yield l) #[] #[]] 95)).alloc (.cells #[.slice none 0 0, .bool false, .bool false] 97)) W.heap.size (W.heap.size + 1) [] false false := by
    refine ⟨.slice none 0 0, ?_, Or.inl ⟨rfl, rfl⟩⟩
    have := heap_alloc_new (W.alloc (.cells #[.func (.yield l) #[] #[]] 95)) (.cells #[.slice none 0 0, .bool false, .bool false] 97)
    rw [World.size_alloc] at this
    exact this
  have hZ1 : Z [] ((W.alloc (.cells #[.func (.yield l) #[] #[]] 95)).alloc (.cells #[.slice none 0 0, .bool false, .bool false] 97)) :=
    hZ _ _ _ (hZ _ _ _ h0 (FrZ.of_grown (World.grownBy_alloc _ _ none) (fun r e => by cases e))) (FrZ.of_grown (World.grownBy_alloc _ _ none) (fun r e => by cases e))
  have hB1 : Below W.heap.size W ((W.alloc (.cells #[.func (.yield l) #[] #[]] 95)).alloc (.cells #[.slice none 0 0, .bool false, .bool false] 97)) := ((Below.refl _ W).alloc (Nat.le_refl _) _).alloc (by simp) _
  refine wpIn_rangeFunc_ownG (n := 9) rfl (by omega) (gf := 55) (lb := #[.pointer (some ⟨Bs, 0, none⟩)]) rfl trivial (enters_of Try.func55 (by kernel_rfl) rfl)
    hseq KB.trans (fun W l' o o' hl _ _ _ => World.putObj_heap_other (by simp at hl; omega)) hB1 (fun _ => rfl)
    (IE Z l W.heap.size) (fun _ _ _ => False) (IE.own (by simp; omega) hZ) (fun _ _ _ _ _ hs _ _ => hs)
    ⟨[], [], false, false, Inv.start, fun _ => rfl, hRd, hZ1, bY.alloc _⟩
    (fun x => { tmps := #[.func (.yield l) #[] #[], .pointer (some ⟨Bp, 0, none⟩), .pointer (some ⟨W.heap.size, 0, none⟩), .pointer (some ⟨W.heap.size + 1, 0, none⟩), .string x.1, undef, undef, .func (.func 55) #[] #[.pointer (some ⟨Bs, 0, none⟩)], .string x.1, undef, undef, undef, undef, undef, undef, undef, undef, undef, undef, undef, undef, undef, undef, undef, undef, undef, undef, undef, undef, undef, undef, undef], defers := [] }) ?assign ?body ?done ?stop
  case assign =>
    intro l x W K hK
    gi_wp2
    exact hK
  case body =>
    rintro l' pre ⟨⟨⟨p⟩⟩, hp⟩ W2 ⟨acc, rest, short, wrong, hI, hw, hR, hz, hbx⟩ hlt
    have hpl : p.length ≤ 60 := hp
    have hll := lists_len pre
    have hIb := hI.2.2
    have hsB : W.heap.size ≤ W2.heap.size := Nat.le_of_lt hbx.lt
    have hfe := feed_any hR p (by omega) hsB
    have HI : Hid (Inv (lists (pre ++ [⟨⟨⟨p⟩⟩, hp⟩])) acc (if (wrong || short) = true then rest else rest ++ p) (decide (p.length < 60)) (wrong || short)) := by
      show Inv _ _ _ _ _
      rw [lists_snoc]; exact hI.feed p
    have HZ2 : Hid (Steady W.heap.size Z ∧ Z acc W2 ∧ Rdr W2 W.heap.size (W.heap.size + 1) rest short wrong) := ⟨hZ, hz, hR⟩
    clear hI hw hz hR
    gi_wp2_with (refine ⟨trivial, ?_⟩; gi_at_call 52; refine (CallsIn.inRound l' (callsIn_wide.2 hfe)).mono ?_; rintro e W3 ⟨⟨v, rfl⟩, hR3, hfr3⟩)
    have hbB : b < W.heap.size := hbn
    have M3 : Mid Z l W.heap.size b acc _ _ _ W2 W3 := Mid.fed hZ hbB HZ2.out.2.1 HZ2.out.2.2 hbx hfr3 hR3
    have hlen : (lists (pre ++ [⟨⟨⟨p⟩⟩, hp⟩])).flatten.length ≤ 62914560 := by
      have := lists_len (pre ++ [⟨⟨⟨p⟩⟩, hp⟩])
      rw [List.length_append, List.length_singleton] at this
      omega
    generalize hps : lists (pre ++ [⟨⟨⟨p⟩⟩, hp⟩]) = ps at hlen HI
    have HPS : Hid (lists (pre ++ [⟨⟨⟨p⟩⟩, hp⟩]) = ps) := hps
    clear hps
    clear hfe hR3 hfr3 HZ2
    gi_loopw [5, 6] (fun _ _ wr => ∃ acc rest short wrong, Hid (Inv ps acc rest short wrong) ∧ Hid (Mid Z l W.heap.size b acc rest short wrong W2 wr)) (fun _ _ wr => leftR (W.heap.size + 1) wr)
    case atStart => exact ⟨_, _, _, _, HI.out, M3⟩
    case round =>
      obtain ⟨acc, rest, short, wrong, HI, HM⟩ := hrel
      have hh := hasWhole_any HM.out.rdr
      have hab := HI.out.2.2
      by_cases hgo : wrong = false ∧ (whole rest).isSome = true
      · obtain ⟨rfl, hws⟩ := hgo
        obtain ⟨⟨⟨k, v⟩, s⟩, hwh⟩ := Option.isSome_iff_exists.1 hws
        have e1 : (!false && (whole rest).isSome) = true := by rw [hws]; rfl
        rw [e1] at hh
        clear e1 hws
        have hks := keyV_shape k
        generalize hpl : keyV k = pl at hks
        generalize hrt : right k v = rt
        rcases hks with rfl | ⟨pt, pv, rfl⟩
        · skip
          have hrd : ∀ W4, wr.grownBy W4 none → Calls Try.prog 54 #[.pointer (some ⟨W.heap.size + 1, 0, none⟩)] W4 fun e W' => e = .returned (.tuple #[.agg #[.string ⟨k.toArray⟩, .string ⟨v.toArray⟩, .nilIface], .bool rt]) ∧ Rdr W' W.heap.size (W.heap.size + 1) s short (!rt) ∧ W4.grownBy W' (some (W.heap.size + 1)) := fun W4 hg => by
            have := read_any (HM.out.rdr.keep hg) hwh (by omega)
            rw [hpl, hrt] at this
            exact this
          have HRD : Hid (∀ W4, wr.grownBy W4 none → Calls Try.prog 54 #[.pointer (some ⟨W.heap.size + 1, 0, none⟩)] W4 fun e W' => e = .returned (.tuple #[.agg #[.string ⟨k.toArray⟩, .string ⟨v.toArray⟩, .nilIface], .bool rt]) ∧ Rdr W' W.heap.size (W.heap.size + 1) s short (!rt) ∧ W4.grownBy W' (some (W.heap.size + 1))) := hrd
          have HWH : Hid (whole rest = some ((k, v), s)) := hwh
          have HRT : Hid (right k v = rt) := hrt
          have HLL : Hid (leftR (W.heap.size + 1) wr = rest.length) := leftR_of HM.out.rdr
          clear hrd hpl hrt hwh
          cases rt with
          | true =>
            gi_wp2_with first | (refine ⟨trivial, ?_⟩; gi_at_call 53; refine (CallsIn.inRound l' (callsIn_wide.2 hh)).mono ?_; clear hh; rintro e W4 ⟨rfl, hg4⟩; have h54 := HRD.out W4 hg4; clear HRD) | (refine ⟨trivial, ?_⟩; gi_at_call 54; refine (CallsIn.inRound l' (callsIn_wide.2 h54)).mono ?_; clear h54; rintro e W5 ⟨rfl, hR5, hg5⟩; have M5 := (HM.out.none hZ hbB hg4).read hZ hbB hg5 hR5; obtain ⟨M6, E6⟩ := M5.lay hZ hbB (.string ⟨k.toArray⟩) (.string ⟨v.toArray⟩) Value.nilIface; have yb := M6.box.cell; have e0 := E6.c0; have e1 := E6.c1; have e2 := E6.c2; obtain ⟨fn, tmps, assign, body, hy, hRd⟩ := hY 6 acc ⟨k.toArray⟩ ⟨v.toArray⟩ Value.nilIface _ M6.z (by omega) (by have := M6.size; omega) (Or.inl rfl))
            refine hRd.mono ?_
            rintro e W8 ⟨rfl, hz8, hk8⟩
            have M8 := M6.yield hbB hz8 hk8
            clear hy hRd yb e0 e1 e2
            gi_wp2
            go_roundw
            case rel => exact ⟨_, _, _, _, HI.out.take HWH.out HRT.out, M8⟩
            case measure => rw [HLL.out, leftR_of M8.rdr]; have := whole_len HWH.out; omega
          | false =>
            gi_wp2_with first | (refine ⟨trivial, ?_⟩; gi_at_call 53; refine (CallsIn.inRound l' (callsIn_wide.2 hh)).mono ?_; clear hh; rintro e W4 ⟨rfl, hg4⟩; have h54 := HRD.out W4 hg4; clear HRD) | (refine ⟨trivial, ?_⟩; gi_at_call 54; refine (CallsIn.inRound l' (callsIn_wide.2 h54)).mono ?_; clear h54; rintro e W5 ⟨rfl, hR5, hg5⟩; have M5 := (HM.out.none hZ hbB hg4).read hZ hbB hg5 hR5; obtain ⟨M6, E6⟩ := M5.lay hZ hbB (.string ⟨k.toArray⟩) (.string ⟨v.toArray⟩) Value.nilIface)
            refine ⟨fun _ h => (by cases h), ?_⟩
            gi_wp2
            go_roundw
            case rel => exact ⟨_, _, _, _, HI.out.spoil HWH.out HRT.out, M6⟩
            case measure => rw [HLL.out, leftR_of M6.rdr]; have := whole_len HWH.out; omega
        · skip
          have hrd : ∀ W4, wr.grownBy W4 none → Calls Try.prog 54 #[.pointer (some ⟨W.heap.size + 1, 0, none⟩)] W4 fun e W' => e = .returned (.tuple #[.agg #[.string ⟨k.toArray⟩, .string ⟨v.toArray⟩, .iface pt pv], .bool rt]) ∧ Rdr W' W.heap.size (W.heap.size + 1) s short (!rt) ∧ W4.grownBy W' (some (W.heap.size + 1)) := fun W4 hg => by
            have := read_any (HM.out.rdr.keep hg) hwh (by omega)
            rw [hpl, hrt] at this
            exact this
          have HRD : Hid (∀ W4, wr.grownBy W4 none → Calls Try.prog 54 #[.pointer (some ⟨W.heap.size + 1, 0, none⟩)] W4 fun e W' => e = .returned (.tuple #[.agg #[.string ⟨k.toArray⟩, .string ⟨v.toArray⟩, .iface pt pv], .bool rt]) ∧ Rdr W' W.heap.size (W.heap.size + 1) s short (!rt) ∧ W4.grownBy W' (some (W.heap.size + 1))) := hrd
          have HWH : Hid (whole rest = some ((k, v), s)) := hwh
          have HRT : Hid (right k v = rt) := hrt
          have HLL : Hid (leftR (W.heap.size + 1) wr = rest.length) := leftR_of HM.out.rdr
          clear hrd hpl hrt hwh
          cases rt with
          | true =>
            gi_wp2_with first | (refine ⟨trivial, ?_⟩; gi_at_call 53; refine (CallsIn.inRound l' (callsIn_wide.2 hh)).mono ?_; clear hh; rintro e W4 ⟨rfl, hg4⟩; have h54 := HRD.out W4 hg4; clear HRD) | (refine ⟨trivial, ?_⟩; gi_at_call 54; refine (CallsIn.inRound l' (callsIn_wide.2 h54)).mono ?_; clear h54; rintro e W5 ⟨rfl, hR5, hg5⟩; have M5 := (HM.out.none hZ hbB hg4).read hZ hbB hg5 hR5; obtain ⟨M6, E6⟩ := M5.lay hZ hbB (.string ⟨k.toArray⟩) (.string ⟨v.toArray⟩) (Value.iface pt pv); have yb := M6.box.cell; have e0 := E6.c0; have e1 := E6.c1; have e2 := E6.c2; obtain ⟨fn, tmps, assign, body, hy, hRd⟩ := hY 6 acc ⟨k.toArray⟩ ⟨v.toArray⟩ (Value.iface pt pv) _ M6.z (by omega) (by have := M6.size; omega) (Or.inr ⟨_, _, rfl⟩))
            refine hRd.mono ?_
            rintro e W8 ⟨rfl, hz8, hk8⟩
            have M8 := M6.yield hbB hz8 hk8
            clear hy hRd yb e0 e1 e2
            gi_wp2
            go_roundw
            case rel => exact ⟨_, _, _, _, HI.out.take HWH.out HRT.out, M8⟩
            case measure => rw [HLL.out, leftR_of M8.rdr]; have := whole_len HWH.out; omega
          | false =>
            gi_wp2_with first | (refine ⟨trivial, ?_⟩; gi_at_call 53; refine (CallsIn.inRound l' (callsIn_wide.2 hh)).mono ?_; clear hh; rintro e W4 ⟨rfl, hg4⟩; have h54 := HRD.out W4 hg4; clear HRD) | (refine ⟨trivial, ?_⟩; gi_at_call 54; refine (CallsIn.inRound l' (callsIn_wide.2 h54)).mono ?_; clear h54; rintro e W5 ⟨rfl, hR5, hg5⟩; have M5 := (HM.out.none hZ hbB hg4).read hZ hbB hg5 hR5; obtain ⟨M6, E6⟩ := M5.lay hZ hbB (.string ⟨k.toArray⟩) (.string ⟨v.toArray⟩) (Value.iface pt pv))
            refine ⟨fun _ h => (by cases h), ?_⟩
            gi_wp2
            go_roundw
            case rel => exact ⟨_, _, _, _, HI.out.spoil HWH.out HRT.out, M6⟩
            case measure => rw [HLL.out, leftR_of M6.rdr]; have := whole_len HWH.out; omega
      · have e1 : (!wrong && (whole rest).isSome) = false := by
          cases wrong with
          | true => rfl
          | false =>
            cases hq : (whole rest).isSome with
            | false => rfl
            | true => exact absurd ⟨rfl, hq⟩ hgo
        rw [e1] at hh
        have HW : Hid (wrong = false → whole rest = none) := fun e => by
          subst e
          cases hq : whole rest with
          | none => rfl
          | some y => exact absurd ⟨rfl, by rw [hq]; rfl⟩ hgo
        clear e1 hgo
        gi_wp2_with (refine ⟨trivial, ?_⟩; gi_at_call 53; refine (CallsIn.inRound l' (callsIn_wide.2 hh)).mono ?_; clear hh; rintro e W4 ⟨rfl, hg4⟩)
        have M4 := HM.out.none hZ hbB hg4
        exact ⟨by simpa using M4.keeps, M4.kb, _, _, _, _, by rw [HPS.out]; exact HI.out, HW.out, M4.rdr, M4.z, M4.box⟩
  case done =>
    rintro D ys W3 hD rfl ⟨acc, rest, short, wrong, hI, hw, hR, hz, hbx⟩ hK
    have HZ3 : Hid (Z acc (W3.putObj D (.deferred none))) := hZ acc W3 _ hz (FrZ.of_grown (grownBy_putObj' W3 D (.deferred none)) (fun r e => by
      cases e
      refine ⟨by simp at hD; omega, fun cur e2 => ?_⟩
      rw [hK] at e2; cases e2))
    obtain ⟨sv, hx, hs⟩ := hR
    obtain ⟨ao, cap, rfl, _⟩ := hs.len
    have c0 := hx.c0
    have c2 := hx.c2
    clear hx hs hz
    cases wrong with
    | true =>
      have HA : Hid (ans (lists ys) = none) := hI.bad
      clear hI hw
      gi_wp2
      refine ⟨by simp, .inl ⟨_, _, rfl, run_takeDeferred hK, ?_⟩⟩
      show EPost Z _ (.panicked pch) _
      rw [HA.out]
      exact ⟨rfl, acc, HZ3.out⟩
    | false =>
      cases rest with
      | nil =>
        have HA : Hid (ans (lists ys) = some acc) := hI.ok
        clear hI hw
        gi_wp2
        refine ⟨by simp, .inl ⟨_, _, rfl, run_takeDeferred hK, ?_⟩⟩
        refine ⟨_, results_none rfl _ _ _, ?_⟩
        show EPost Z _ (.returned _) _
        rw [HA.out]
        exact ⟨⟨_, rfl⟩, HZ3.out⟩
      | cons c t =>
        have HA : Hid (ans (lists ys) = none) := hI.rest (by simp) (hw rfl)
        have hpos : (0 : Int) < ((c :: t).length : Int) := by rw [List.length_cons]; omega
        clear hI hw
        gi_wp2
        refine ⟨by simp, .inl ⟨_, _, rfl, run_takeDeferred hK, ?_⟩⟩
        show EPost Z _ (.panicked pch) _
        rw [HA.out]
        exact ⟨rfl, acc, HZ3.out⟩
  case stop =>
    rintro D c pre W _ _ h _
    exact h.elim
end
end Go.Proofs.Ytbdnhccjlggpkaa

/-
  OURS. How the model orders two floats of 64 bits, told by their words alone: what is no number apart; else by the rung with its sign.
-/
import Ieee.Arith
namespace Go.Proofs.Ytbdnhccjlggpkaa

/-- A word's rung and sign, as one integer. -/
def fkey (w : Nat) : Int := if w / 2 ^ 63 % 2 = 1 then -((w % 2 ^ 63 : Nat) : Int) else ((w % 2 ^ 63 : Nat) : Int)
def isN (w : Nat) : Bool := decide (2047 * 2 ^ 52 < w % 2 ^ 63)

/-- The magnitude of a rung, in units of the least place. -/
def mag (B r : Nat) : Nat := if r < B then r else (B + r % B) * 2 ^ (r / B - 1)

theorem mag_lt {B : Nat} (hB : 0 < B) (r : Nat) : mag B r < B * 2 ^ (r / B) := by
  unfold mag
  split
  · rename_i h
    rw [Nat.div_eq_of_lt h]; simpa using h
  · rename_i h
    have h1 : 1 ≤ r / B := (Nat.le_div_iff_mul_le hB).2 (by omega)
    have h2 : r % B < B := Nat.mod_lt _ hB
    obtain ⟨k, hk⟩ : ∃ k, r / B = k + 1 := ⟨r / B - 1, by omega⟩
    rw [hk, Nat.add_sub_cancel, Nat.pow_succ, ← Nat.mul_assoc, Nat.mul_right_comm]
    exact Nat.mul_lt_mul_of_pos_right (by omega) (Nat.two_pow_pos k)

theorem mag_ge {B : Nat} (r : Nat) (h : B ≤ r) : B * 2 ^ (r / B - 1) ≤ mag B r := by
  unfold mag
  rw [if_neg (by omega)]
  exact Nat.mul_le_mul_right _ (by omega)

theorem mag_mono {B : Nat} (hB : 0 < B) {r s : Nat} (h : r < s) : mag B r < mag B s := by
  have hd : r / B ≤ s / B := Nat.div_le_div_right (by omega)
  by_cases e : r / B = s / B
  · have er := Nat.div_add_mod r B
    have es := Nat.div_add_mod s B
    rw [e] at er
    have hm : r % B < s % B := by omega
    unfold mag
    by_cases hs : s < B
    · rw [if_pos (by omega), if_pos hs]; exact h
    · have h1 : 1 ≤ s / B := (Nat.le_div_iff_mul_le hB).2 (by omega)
      have hr : ¬ r < B := by
        intro hr; rw [Nat.div_eq_of_lt hr] at e; omega
      rw [if_neg hr, if_neg hs, e]
      exact Nat.mul_lt_mul_of_pos_right (by omega) (Nat.two_pow_pos _)
  · have hlt : r / B < s / B := by omega
    have hs : B ≤ s := by
      by_cases hs : s < B
      · rw [Nat.div_eq_of_lt hs] at hlt; exact absurd hlt (Nat.not_lt_zero _)
      · omega
    refine Nat.lt_of_lt_of_le (mag_lt hB r) (Nat.le_trans ?_ (mag_ge s hs))
    exact Nat.mul_le_mul_left _ (Nat.pow_le_pow_right (by omega) (by omega))

theorem mag_zero {B : Nat} (hB : 0 < B) : mag B 0 = 0 := by unfold mag; rw [if_pos hB]

theorem mag_lt_iff {B : Nat} (hB : 0 < B) {r s : Nat} : mag B r < mag B s ↔ r < s := by
  constructor
  · intro h
    rcases Nat.lt_or_ge r s with h1 | h1
    · exact h1
    · exfalso
      rcases Nat.eq_or_lt_of_le h1 with h2 | h2
      · rw [h2] at h; exact Nat.lt_irrefl _ h
      · exact Nat.lt_asymm h (mag_mono hB h2)
  · exact mag_mono hB

theorem mag_pos {B : Nat} (hB : 0 < B) {r : Nat} : 0 < mag B r ↔ 0 < r := by
  have h := mag_lt_iff hB (r := 0) (s := r)
  rw [mag_zero hB] at h
  exact h

/-- The same with a sign. -/
def sg (s : Bool) (n : Nat) : Int := if s then -(n : Int) else n

theorem cmp_sg {B : Nat} (hB : 0 < B) (s t : Bool) (a b : Nat) : compare (sg s (mag B a)) (sg t (mag B b)) = compare (sg s a) (sg t b) := by
  have h1 : sg s (mag B a) < sg t (mag B b) ↔ sg s a < sg t b := by
    have l1 := mag_lt_iff hB (r := a) (s := b)
    have l2 := mag_lt_iff hB (r := b) (s := a)
    have p1 := mag_pos hB (r := a)
    have p2 := mag_pos hB (r := b)
    cases s <;> cases t <;> simp only [sg] <;> simp <;> omega
  have h2 : sg t (mag B b) < sg s (mag B a) ↔ sg t b < sg s a := by
    have l1 := mag_lt_iff hB (r := a) (s := b)
    have l2 := mag_lt_iff hB (r := b) (s := a)
    have p1 := mag_pos hB (r := a)
    have p2 := mag_pos hB (r := b)
    cases s <;> cases t <;> simp only [sg] <;> simp <;> omega
  generalize sg s (mag B a) = x at *
  generalize sg t (mag B b) = y at *
  generalize sg s a = u at *
  generalize sg t b = v at *
  rcases Int.lt_trichotomy u v with h | h | h
  · rw [Int.compare_eq_lt.2 h, Int.compare_eq_lt.2 (h1.2 h)]
  · rw [Int.compare_eq_eq.2 h, Int.compare_eq_eq.2 (by omega)]
  · rw [Int.compare_eq_gt.2 h, Int.compare_eq_gt.2 (h2.2 h)]

theorem cmp_mul (x y : Int) (k : Nat) : compare (x * 2 ^ k) (y * 2 ^ k) = compare x y := by
  have hk : (0 : Int) < 2 ^ k := Int.pow_pos (by omega)
  rcases Int.lt_trichotomy x y with h | h | h
  · rw [Int.compare_eq_lt.2 h, Int.compare_eq_lt.2 (Int.mul_lt_mul_of_pos_right h hk)]
  · rw [Int.compare_eq_eq.2 h, Int.compare_eq_eq.2 (by rw [h])]
  · rw [Int.compare_eq_gt.2 h, Int.compare_eq_gt.2 (Int.mul_lt_mul_of_pos_right h hk)]

theorem signed_eq (s : Bool) (m p : Nat) : Ieee.signed s m p = sg s (m * 2 ^ p) := by
  unfold Ieee.signed sg
  simp only [Nat.shiftLeft_eq]

theorem sg_mul (s : Bool) (m p k : Nat) : sg s (m * 2 ^ p) * 2 ^ k = sg s (m * 2 ^ (p + k)) := by
  have e : ((m * 2 ^ (p + k) : Nat) : Int) = ((m * 2 ^ p : Nat) : Int) * 2 ^ k := by
    rw [Nat.pow_add, ← Nat.mul_assoc]
    simp
  cases s
  · simp only [sg]; simp only [Bool.false_eq_true, if_false]; rw [e]
  · simp only [sg]; simp only [if_true]; rw [e, Int.neg_mul]

/-- Two finite data whose places lie p and q above one base. -/
theorem order_places (s t : Bool) (m n p q : Nat) (c : Int) :
    Ieee.Datum.order (.number s m (c + p)) (.number t n (c + q)) = some (compare (sg s (m * 2 ^ p)) (sg t (n * 2 ^ q))) := by
  have e : Ieee.Datum.order (.number s m (c + p)) (.number t n (c + q)) = some (compare (Ieee.signed s m (c + p - min (c + p) (c + q)).toNat) (Ieee.signed t n (c + q - min (c + p) (c + q)).toNat)) := rfl
  rw [e]
  have h1 : (c + p - min (c + p) (c + q)).toNat = p - min p q := by omega
  have h2 : (c + q - min (c + p) (c + q)).toNat = q - min p q := by omega
  rw [h1, h2, signed_eq, signed_eq, ← cmp_mul _ _ (min p q), sg_mul, sg_mul]
  have h3 : p - min p q + min p q = p := by omega
  have h4 : q - min p q + min p q = q := by omega
  rw [h3, h4]

/-- The places above the least one. -/
def up (B r : Nat) : Nat := r / B - 1
def man (B r : Nat) : Nat := if r < B then r else B + r % B

theorem mag_man (B r : Nat) : man B r * 2 ^ up B r = mag B r := by
  unfold man mag up
  split
  · rename_i h
    rw [Nat.div_eq_of_lt h]; simp
  · rfl

theorem read_fin (f : Ieee.Format) (w : Nat) (h : w % f.signWeight < f.infRung) :
    f.read w = .number (w / f.signWeight % 2 == 1) (man f.binade (w % f.signWeight)) (f.leastPlace + (up f.binade (w % f.signWeight) : Nat)) := by
  unfold Ieee.Format.read
  simp only []
  by_cases hb : w % f.signWeight < f.binade
  · rw [if_pos hb]
    unfold man up
    rw [if_pos hb, Nat.div_eq_of_lt hb]
    simp
  · rw [if_neg hb, if_pos h]
    unfold man up
    rw [if_neg hb]

theorem read_inf (f : Ieee.Format) (w : Nat) (h : w % f.signWeight = f.infRung) (hb : f.binade ≤ f.infRung) :
    f.read w = .infinity (w / f.signWeight % 2 == 1) := by
  unfold Ieee.Format.read
  simp only []
  rw [if_neg (by omega), if_neg (by omega), if_pos h]

theorem read_nan (f : Ieee.Format) (w : Nat) (h : f.infRung < w % f.signWeight) (hb : f.binade ≤ f.infRung) :
    ∃ n, f.read w = .nan (w / f.signWeight % 2 == 1) n := by
  refine ⟨w % f.signWeight - f.infRung, ?_⟩
  unfold Ieee.Format.read
  simp only []
  rw [if_neg (by omega), if_neg (by omega), if_neg (by omega)]

theorem fkey_sg (w : Nat) : fkey w = sg (w / 2 ^ 63 % 2 == 1) (w % 2 ^ 63) := by
  unfold fkey sg
  by_cases h : w / 2 ^ 63 % 2 = 1
  · rw [if_pos h]; simp [h]
  · rw [if_neg h]; simp [h]

theorem sw : Ieee.double.signWeight = 2 ^ 63 := rfl
theorem bi : Ieee.double.binade = 2 ^ 52 := rfl
theorem ir : Ieee.double.infRung = 2047 * 2 ^ 52 := rfl

theorem order_num (x y : Nat) (hx : isN x = false) (hy : isN y = false) :
    Ieee.double.order x y = some (compare (fkey x) (fkey y)) := by
  have hx' : x % Ieee.double.signWeight ≤ Ieee.double.infRung := by
    rw [sw, ir]; unfold isN at hx; simpa using hx
  have hy' : y % Ieee.double.signWeight ≤ Ieee.double.infRung := by
    rw [sw, ir]; unfold isN at hy; simpa using hy
  rw [fkey_sg, fkey_sg, ← sw]
  have hB : 0 < Ieee.double.binade := by rw [bi]; omega
  have hbi : Ieee.double.binade ≤ Ieee.double.infRung := by rw [bi, ir]; omega
  have hI : 0 < Ieee.double.infRung := by omega
  unfold Ieee.Format.order
  generalize Ieee.double = f at *
  by_cases h1 : x % f.signWeight < f.infRung
  · by_cases h2 : y % f.signWeight < f.infRung
    · rw [read_fin f x h1, read_fin f y h2, order_places, mag_man, mag_man, cmp_sg hB]
    · have h2' : y % f.signWeight = f.infRung := by omega
      rw [read_fin f x h1, read_inf f y h2' hbi, h2']
      generalize (y / f.signWeight % 2 == 1) = t
      generalize (x / f.signWeight % 2 == 1) = s
      show some (if t then Ordering.gt else Ordering.lt) = _
      cases t
      · rw [Int.compare_eq_lt.2 (by cases s <;> simp only [sg] <;> simp <;> omega)]; rfl
      · rw [Int.compare_eq_gt.2 (by cases s <;> simp only [sg] <;> simp <;> omega)]; rfl
  · have h1' : x % f.signWeight = f.infRung := by omega
    by_cases h2 : y % f.signWeight < f.infRung
    · rw [read_inf f x h1' hbi, read_fin f y h2, h1']
      generalize (y / f.signWeight % 2 == 1) = t
      generalize (x / f.signWeight % 2 == 1) = s
      show some (if s then Ordering.lt else Ordering.gt) = _
      cases s
      · rw [Int.compare_eq_gt.2 (by cases t <;> simp only [sg] <;> simp <;> omega)]; rfl
      · rw [Int.compare_eq_lt.2 (by cases t <;> simp only [sg] <;> simp <;> omega)]; rfl
    · have h2' : y % f.signWeight = f.infRung := by omega
      rw [read_inf f x h1' hbi, read_inf f y h2' hbi, h1', h2']
      generalize (y / f.signWeight % 2 == 1) = t
      generalize (x / f.signWeight % 2 == 1) = s
      show some (compare t.toNat s.toNat) = _
      cases s <;> cases t
      · rw [Int.compare_eq_eq.2 rfl]; rfl
      · rw [Int.compare_eq_gt.2 (by simp only [sg]; simp; omega)]; rfl
      · rw [Int.compare_eq_lt.2 (by simp only [sg]; simp; omega)]; rfl
      · rw [Int.compare_eq_eq.2 rfl]; rfl

theorem order_nan (x y : Nat) (h : isN x = true ∨ isN y = true) : Ieee.double.order x y = none := by
  have hbi : Ieee.double.binade ≤ Ieee.double.infRung := by rw [bi, ir]; omega
  unfold Ieee.Format.order
  rcases h with h | h
  · have h' : Ieee.double.infRung < x % Ieee.double.signWeight := by rw [sw, ir]; unfold isN at h; simpa using h
    obtain ⟨n, hn⟩ := read_nan _ x h' hbi
    rw [hn]; rfl
  · have h' : Ieee.double.infRung < y % Ieee.double.signWeight := by rw [sw, ir]; unfold isN at h; simpa using h
    obtain ⟨n, hn⟩ := read_nan _ y h' hbi
    rw [hn]
    cases Ieee.double.read x <;> rfl

theorem order_self (x : Nat) : (Ieee.double.order x x != some .eq) = isN x := by
  cases h : isN x
  · rw [order_num x x h h, Int.compare_eq_eq.2 rfl]; rfl
  · rw [order_nan x x (Or.inl h)]; rfl

theorem order_lt (x y : Nat) (hx : isN x = false) (hy : isN y = false) : (Ieee.double.order x y == some .lt) = decide (fkey x < fkey y) := by
  rw [order_num x y hx hy]
  rcases Int.lt_trichotomy (fkey x) (fkey y) with h | h | h
  · rw [Int.compare_eq_lt.2 h, decide_eq_true h]; rfl
  · rw [Int.compare_eq_eq.2 h, decide_eq_false (by omega)]; rfl
  · rw [Int.compare_eq_gt.2 h, decide_eq_false (by omega)]; rfl

theorem order_gt (x y : Nat) (hx : isN x = false) (hy : isN y = false) : (Ieee.double.order x y == some .gt) = decide (fkey y < fkey x) := by
  rw [order_num x y hx hy]
  rcases Int.lt_trichotomy (fkey x) (fkey y) with h | h | h
  · rw [Int.compare_eq_lt.2 h, decide_eq_false (by omega)]; rfl
  · rw [Int.compare_eq_eq.2 h, decide_eq_false (by omega)]; rfl
  · rw [Int.compare_eq_gt.2 h, decide_eq_true h]; rfl

end Go.Proofs.Ytbdnhccjlggpkaa

/- Pure facts about CRC-32: steps, feeding bytes, shifting, and their linearity. -/
import Derived.PlainAid
namespace Go.Proofs.Ytcaodblmdaifjaa

/-- A step of a number. -/
def cstep (x : Nat) : Nat := if x % 2 = 1 then x / 2 ^^^ 3988292384 else x / 2

theorem xor_cases (x y : Nat) : (x ^^^ y) % 2 = (x % 2 + y % 2) % 2 := by
  have h := Nat.xor_mod_two_eq_one (a := x) (b := y)
  rcases Nat.mod_two_eq_zero_or_one x with hx | hx <;> rcases Nat.mod_two_eq_zero_or_one y with hy | hy <;> rcases Nat.mod_two_eq_zero_or_one (x ^^^ y) with hz | hz <;> simp [hx, hy, hz] at h ⊢
theorem xor_half (x y : Nat) : (x ^^^ y) / 2 = x / 2 ^^^ y / 2 := by
  have := Nat.shiftRight_xor_distrib (a := x) (b := y) (i := 1)
  simpa [Nat.shiftRight_eq_div_pow] using this
theorem xor_self_left (a b : Nat) : a ^^^ (a ^^^ b) = b := by rw [← Nat.xor_assoc, Nat.xor_self, Nat.zero_xor]
theorem xor_mid (a b c d : Nat) : (a ^^^ b) ^^^ (c ^^^ d) = (a ^^^ c) ^^^ (b ^^^ d) := by
  rw [Nat.xor_assoc, Nat.xor_assoc, ← Nat.xor_assoc b c d, Nat.xor_comm b c, Nat.xor_assoc c b d]

theorem cstep_xor (x y : Nat) : cstep (x ^^^ y) = cstep x ^^^ cstep y := by
  unfold cstep
  have h := xor_cases x y
  rw [xor_half]
  rcases Nat.mod_two_eq_zero_or_one x with hx | hx <;> rcases Nat.mod_two_eq_zero_or_one y with hy | hy <;> rw [hx, hy] at h
  · rw [if_neg (by omega), if_neg (by omega), if_neg (by omega)]
  · rw [if_pos (by omega), if_neg (by omega), if_pos (by omega), Nat.xor_assoc]
  · rw [if_pos (by omega), if_pos (by omega), if_neg (by omega), Nat.xor_assoc, Nat.xor_assoc, Nat.xor_comm 3988292384]
  · rw [if_neg (by omega), if_pos (by omega), if_pos (by omega), xor_mid, Nat.xor_self, Nat.xor_zero]
theorem cstep_zero : cstep 0 = 0 := rfl
theorem cstep_lt {x : Nat} (h : x < 4294967296) : cstep x < 4294967296 := by
  unfold cstep
  split
  · exact Nat.xor_lt_two_pow (n := 32) (by omega) (by decide)
  · omega
theorem cstep_ker {x : Nat} (h : x < 4294967296) (h0 : cstep x = 0) : x = 0 := by
  unfold cstep at h0
  split at h0
  · have : x / 2 = 3988292384 := by
      have := congrArg (fun z => z ^^^ 3988292384) h0
      simpa [Nat.xor_assoc] using this
    omega
  · omega
theorem cstep_double (x : Nat) : cstep (2 * x) = x := by
  unfold cstep; rw [if_neg (by omega)]; omega

/-- n steps. -/
def csteps : Nat → Nat → Nat
  | 0, x => x
  | n + 1, x => csteps n (cstep x)
theorem csteps_add (m n x : Nat) : csteps (m + n) x = csteps n (csteps m x) := by
  induction m generalizing x with
  | zero => rw [Nat.zero_add]; rfl
  | succ m ih => rw [Nat.succ_add]; exact ih (cstep x)
theorem csteps_xor (n x y : Nat) : csteps n (x ^^^ y) = csteps n x ^^^ csteps n y := by
  induction n generalizing x y with
  | zero => rfl
  | succ n ih => show csteps n (cstep (x ^^^ y)) = _; rw [cstep_xor, ih]; rfl
theorem csteps_zero (n : Nat) : csteps n 0 = 0 := by
  induction n with
  | zero => rfl
  | succ n ih => exact ih
theorem csteps_lt (n : Nat) {x : Nat} (h : x < 4294967296) : csteps n x < 4294967296 := by
  induction n generalizing x with
  | zero => exact h
  | succ n ih => exact ih (cstep_lt h)
theorem csteps_ker (n : Nat) {x : Nat} (h : x < 4294967296) (h0 : csteps n x = 0) : x = 0 := by
  induction n generalizing x with
  | zero => exact h0
  | succ n ih => exact cstep_ker h (ih (cstep_lt h) h0)
theorem csteps_inj (n : Nat) {x y : Nat} (hx : x < 4294967296) (hy : y < 4294967296) (h : csteps n x = csteps n y) : x = y := by
  have h1 : csteps n (x ^^^ y) = 0 := by rw [csteps_xor, h, Nat.xor_self]
  have h2 := csteps_ker n (Nat.xor_lt_two_pow (n := 32) hx hy) h1
  have := congrArg (fun z => z ^^^ y) h2
  simpa [Nat.xor_assoc] using this
theorem csteps_pow (n x : Nat) : csteps n (2 ^ n * x) = x := by
  induction n generalizing x with
  | zero => simp [csteps]
  | succ n ih =>
    show csteps n (cstep (2 ^ (n + 1) * x)) = x
    rw [show 2 ^ (n + 1) * x = 2 * (2 ^ n * x) from by rw [Nat.pow_succ, Nat.mul_comm (2 ^ n) 2, Nat.mul_assoc], cstep_double, ih]

/-- A byte is fed. -/
def cfeed (x b : Nat) : Nat := csteps 8 (x ^^^ b)
/-- Bytes are fed. -/
def cfeeds (x : Nat) (l : List Nat) : Nat := l.foldl cfeed x
/-- A number is shifted by n bytes. -/
def cshift (n x : Nat) : Nat := csteps (8 * n) x

theorem cfeeds_append (x : Nat) (a b : List Nat) : cfeeds x (a ++ b) = cfeeds (cfeeds x a) b := List.foldl_append ..
theorem cfeeds_cons (x b : Nat) (l : List Nat) : cfeeds x (b :: l) = cfeeds (cfeed x b) l := rfl
theorem cfeeds_snoc (x b : Nat) (l : List Nat) : cfeeds x (l ++ [b]) = cfeed (cfeeds x l) b := by rw [cfeeds_append]; rfl
theorem cfeed_lt {x b : Nat} (hx : x < 4294967296) (hb : b < 256) : cfeed x b < 4294967296 :=
  csteps_lt 8 (Nat.xor_lt_two_pow (n := 32) hx (by omega))
theorem cfeeds_lt {x : Nat} (hx : x < 4294967296) : ∀ {l : List Nat}, (∀ b ∈ l, b < 256) → cfeeds x l < 4294967296 := by
  intro l
  induction l generalizing x with
  | nil => intro _; exact hx
  | cons b l ih => intro h; exact ih (cfeed_lt hx (h b (by simp))) (fun c hc => h c (by simp [hc]))
theorem cshift_zero_right (n : Nat) : cshift n 0 = 0 := csteps_zero _
theorem cshift_add (m n x : Nat) : cshift (m + n) x = cshift n (cshift m x) := by unfold cshift; rw [Nat.mul_add, csteps_add]
theorem cshift_xor (n x y : Nat) : cshift n (x ^^^ y) = cshift n x ^^^ cshift n y := csteps_xor ..
theorem cshift_lt (n : Nat) {x : Nat} (h : x < 4294967296) : cshift n x < 4294967296 := csteps_lt _ h
theorem cshift_inj (n : Nat) {x y : Nat} (hx : x < 4294967296) (hy : y < 4294967296) : cshift n x = cshift n y ↔ x = y := ⟨csteps_inj _ hx hy, fun h => by rw [h]⟩
theorem cshift_one (x : Nat) : cshift 1 x = cfeed x 0 := by unfold cshift cfeed; rw [Nat.xor_zero]

/-- Feeding splits into shifting and feeding into zero. -/
theorem cfeeds_split (x : Nat) (l : List Nat) : cfeeds x l = cshift l.length x ^^^ cfeeds 0 l := by
  induction l generalizing x with
  | nil => show x = x ^^^ 0; rw [Nat.xor_zero]
  | cons b l ih =>
    rw [cfeeds_cons, cfeeds_cons, ih, ih (cfeed 0 b), List.length_cons, Nat.add_comm l.length 1, cshift_add, ← Nat.xor_assoc, ← cshift_xor]
    congr 2
    unfold cshift cfeed
    rw [csteps_xor, Nat.zero_xor]
/-- Zero bytes only shift. -/
theorem cfeeds_zeros (x n : Nat) : cfeeds x (List.replicate n 0) = cshift n x := by
  induction n generalizing x with
  | zero => rfl
  | succ n ih => rw [List.replicate_succ, cfeeds_cons, ih, Nat.add_comm, cshift_add, cshift_one]

/-- The checksum. -/
def cupd (s : Nat) (l : List Nat) : Nat := cfeeds (s ^^^ 4294967295) l ^^^ 4294967295
def csum (l : List Nat) : Nat := cupd 0 l
theorem cupd_append (s : Nat) (a b : List Nat) : cupd s (a ++ b) = cupd (cupd s a) b := by
  unfold cupd
  rw [cfeeds_append, Nat.xor_assoc (cfeeds _ a), Nat.xor_self, Nat.xor_zero]
theorem cupd_lt {s : Nat} (hs : s < 4294967296) {l : List Nat} (h : ∀ b ∈ l, b < 256) : cupd s l < 4294967296 :=
  Nat.xor_lt_two_pow (n := 32) (cfeeds_lt (Nat.xor_lt_two_pow (n := 32) hs (by decide)) h) (by decide)
theorem cupd_nil (s : Nat) : cupd s [] = s := by
  show (s ^^^ 4294967295) ^^^ 4294967295 = s
  rw [Nat.xor_assoc, Nat.xor_self, Nat.xor_zero]
/-- The checksum of two parts. -/
theorem csum_parts (a b : List Nat) : csum (a ++ b) = cshift b.length (csum a) ^^^ csum b := by
  unfold csum cupd
  rw [cfeeds_append, cfeeds_split (cfeeds _ a) b, cfeeds_split (0 ^^^ 4294967295) b, cshift_xor, Nat.zero_xor]
  rw [Nat.xor_assoc (cshift _ (cfeeds _ _)) (cshift _ _), Nat.xor_assoc (cshift _ 4294967295) (cfeeds 0 b) _, xor_self_left, Nat.xor_assoc]

/-- With the table of all bytes. -/
theorem low_high (y : Nat) : y = y % 256 ^^^ 256 * (y / 256) := by
  have h := Nat.div_add_mod y 256
  have e : y % 256 ^^^ 256 * (y / 256) = 256 * (y / 256) + y % 256 := by
    have := Nat.two_pow_add_eq_or_of_lt (i := 8) (b := y % 256) (Nat.mod_lt _ (by decide)) (y / 256)
    rw [show (256 : Nat) = 2 ^ 8 from rfl] at *
    rw [this]
    apply Nat.eq_of_testBit_eq
    intro i
    rw [Nat.testBit_xor, Nat.testBit_or, Nat.testBit_two_pow_mul, Nat.testBit_mod_two_pow]
    by_cases hi : i < 8
    · simp [hi, show ¬ 8 ≤ i from by omega]
    · simp [hi]
  omega
theorem cfeed_table {x b : Nat} (hb : b < 256) : cfeed x b = csteps 8 ((x ^^^ b) % 256) ^^^ x / 256 := by
  unfold cfeed
  conv => lhs; rw [low_high (x ^^^ b)]
  rw [csteps_xor, show 256 * ((x ^^^ b) / 256) = 2 ^ 8 * ((x ^^^ b) / 256) from rfl, csteps_pow]
  congr 1
  have h1 : (x ^^^ b) / 256 = x / 256 ^^^ b / 256 := by
    have := Nat.shiftRight_xor_distrib (a := x) (b := b) (i := 8)
    simpa [Nat.shiftRight_eq_div_pow] using this
  rw [h1, Nat.div_eq_of_lt hb, Nat.xor_zero]

/-- Strings are combined byte by byte. -/
theorem cfeed_xor (x y b c : Nat) : cfeed (x ^^^ y) (b ^^^ c) = cfeed x b ^^^ cfeed y c := by
  unfold cfeed; rw [xor_mid, csteps_xor]
theorem cfeeds_xor (a b : List Nat) (h : a.length = b.length) (x y : Nat) : cfeeds (x ^^^ y) (List.zipWith (· ^^^ ·) a b) = cfeeds x a ^^^ cfeeds y b := by
  induction a generalizing b x y with
  | nil => cases b with
    | nil => rfl
    | cons _ _ => simp at h
  | cons p a ih => cases b with
    | nil => simp at h
    | cons q b =>
      rw [List.zipWith_cons_cons, cfeeds_cons, cfeeds_cons, cfeeds_cons, cfeed_xor, ih b (by simpa using h)]
theorem csum_three (a b c : List Nat) (h1 : a.length = b.length) (h2 : a.length = c.length) :
    csum a ^^^ csum b ^^^ csum c = csum (List.zipWith (· ^^^ ·) (List.zipWith (· ^^^ ·) a b) c) := by
  have e := cfeeds_xor (List.zipWith (· ^^^ ·) a b) c (by simp; omega) ((0 ^^^ 4294967295) ^^^ (0 ^^^ 4294967295)) (0 ^^^ 4294967295)
  rw [cfeeds_xor a b h1] at e
  unfold csum cupd
  rw [show ((0 ^^^ 4294967295) ^^^ (0 ^^^ 4294967295)) ^^^ (0 ^^^ 4294967295) = 0 ^^^ 4294967295 from rfl] at e
  rw [e, xor_mid (cfeeds _ a) _ (cfeeds _ b) _, Nat.xor_self, Nat.xor_zero, ← Nat.xor_assoc]

/-- A string as one number, the first byte lowest. -/
def lnum : List Nat → Nat
  | [] => 0
  | b :: l => b + 256 * lnum l
theorem add_xor {b : Nat} (h : b < 256) (z : Nat) : b + 256 * z = b ^^^ 256 * z := by
  have := low_high (b + 256 * z)
  rw [show (b + 256 * z) % 256 = b from by omega, show (b + 256 * z) / 256 = z from by omega] at this
  exact this
theorem cfeeds_num (x : Nat) (l : List Nat) (h : ∀ b ∈ l, b < 256) : cfeeds x l = csteps (8 * l.length) (x ^^^ lnum l) := by
  induction l generalizing x with
  | nil => show x = x ^^^ 0; rw [Nat.xor_zero]
  | cons b l ih =>
    rw [cfeeds_cons, ih _ (fun c hc => h c (by simp [hc])), List.length_cons, show 8 * (l.length + 1) = 8 + 8 * l.length from by omega, csteps_add]
    congr 1
    show _ = csteps 8 (x ^^^ (b + 256 * lnum l))
    rw [add_xor (h b (by simp)), ← Nat.xor_assoc, csteps_xor, show 256 * lnum l = 2 ^ 8 * lnum l from rfl, csteps_pow]
    rfl
theorem mul_xor (n x y : Nat) : 2 ^ n * (x ^^^ y) = 2 ^ n * x ^^^ 2 ^ n * y := by
  apply Nat.eq_of_testBit_eq
  intro i
  rw [Nat.testBit_xor, Nat.testBit_two_pow_mul, Nat.testBit_two_pow_mul, Nat.testBit_two_pow_mul, Nat.testBit_xor]
  cases decide (n ≤ i) <;> simp
/-- One bit of a string is turned. -/
theorem lnum_turn (l : List Nat) (h : ∀ b ∈ l, b < 256) (k r : Nat) (hk : k < l.length) (hr : r < 8) : lnum (l.set k (l.getD k 0 ^^^ 2 ^ r)) = lnum l ^^^ 2 ^ (8 * k + r) := by
  have hp : 2 ^ r < 256 := Nat.pow_lt_pow_right (by decide) (m := r) (n := 8) hr
  induction l generalizing k with
  | nil => simp at hk
  | cons b l ih =>
    have hb := h b (by simp)
    cases k with
    | zero =>
      show (b ^^^ 2 ^ r) + 256 * lnum l = (b + 256 * lnum l) ^^^ 2 ^ (0 + r)
      rw [add_xor hb, add_xor (Nat.xor_lt_two_pow (n := 8) hb hp), Nat.zero_add, Nat.xor_assoc, Nat.xor_assoc, Nat.xor_comm (2 ^ r)]
    | succ k =>
      have := ih (fun c hc => h c (by simp [hc])) k (by simpa using hk)
      show b + 256 * lnum (l.set k (l.getD k 0 ^^^ 2 ^ r)) = (b + 256 * lnum l) ^^^ 2 ^ (8 * (k + 1) + r)
      rw [this, add_xor hb, add_xor hb, show (256 : Nat) = 2 ^ 8 from rfl, mul_xor, ← Nat.xor_assoc, ← Nat.pow_add, show 8 + (8 * k + r) = 8 * (k + 1) + r from by omega]
/-- Bits that are changed among 32 neighbouring ones change the checksum. -/
theorem csum_turned (l c : List Nat) (hl : ∀ b ∈ l, b < 256) (hc : ∀ b ∈ c, b < 256) (hn : c.length = l.length) (at_ m : Nat) (ha : at_ ≤ 8 * l.length) (hm : m < 4294967296)
    (e : lnum c = lnum l ^^^ 2 ^ at_ * m) : csum l = csum c ↔ m = 0 := by
  have e1 : csum c = csum l ^^^ csteps (8 * l.length - at_) m := by
    unfold csum cupd
    rw [cfeeds_num _ c hc, cfeeds_num _ l hl, hn, e, ← Nat.xor_assoc, csteps_xor, show csteps (8 * l.length) (2 ^ at_ * m) = csteps (8 * l.length - at_) m from by
      rw [show 8 * l.length = at_ + (8 * l.length - at_) from by omega, csteps_add, csteps_pow]; congr 1; omega]
    rw [Nat.xor_assoc _ (csteps (8 * l.length - at_) m) _, Nat.xor_comm (csteps (8 * l.length - at_) m) 4294967295, ← Nat.xor_assoc]
  constructor
  · intro h
    rw [e1] at h
    have := congrArg (fun z => csum l ^^^ z) h
    simp only [Nat.xor_self, xor_self_left] at this
    exact csteps_ker _ hm this.symm
  · intro h
    rw [e1, h, csteps_zero, Nat.xor_zero]

/-- A matrix over bits: what becomes of each bit, applied to the first n bits of x. -/
def capp (m : Nat → Nat) (x : Nat) : Nat → Nat
  | 0 => 0
  | i + 1 => if x / 2 ^ i % 2 = 1 then capp m x i ^^^ m i else capp m x i
theorem mod_step (x i : Nat) : x % 2 ^ (i + 1) = if x / 2 ^ i % 2 = 1 then x % 2 ^ i ^^^ 2 ^ i else x % 2 ^ i := by
  have hb : decide (x / 2 ^ i % 2 = 1) = x.testBit i := (Nat.testBit_eq_decide_div_mod_eq).symm
  have : x % 2 ^ (i + 1) = x % 2 ^ i ^^^ (if x.testBit i then 2 ^ i else 0) := by
    apply Nat.eq_of_testBit_eq
    intro j
    rw [Nat.testBit_xor, Nat.testBit_mod_two_pow, Nat.testBit_mod_two_pow]
    rcases Nat.lt_trichotomy j i with h | h | h
    · have h1 : j < i + 1 := by omega
      cases hx : x.testBit i <;> simp [h, h1, show ¬ i = j from by omega]
    · subst h
      cases hx : x.testBit j <;> simp
    · have h1 : ¬ j < i + 1 := by omega
      have h2 : ¬ j < i := by omega
      cases hx : x.testBit i <;> simp [h1, h2, show ¬ i = j from by omega]
  rw [this]
  cases hx : x.testBit i with
  | true => rw [hx] at hb; rw [if_pos rfl, if_pos (of_decide_eq_true hb)]
  | false => rw [hx] at hb; rw [if_neg (by decide), if_neg (of_decide_eq_false hb), Nat.xor_zero]
theorem capp_lin (S : Nat → Nat) (h0 : S 0 = 0) (hS : ∀ x y, S (x ^^^ y) = S x ^^^ S y) (x n : Nat) : capp (fun i => S (2 ^ i)) x n = S (x % 2 ^ n) := by
  induction n with
  | zero => simp [capp, Nat.mod_one, h0]
  | succ n ih =>
    rw [mod_step]
    show (if x / 2 ^ n % 2 = 1 then capp _ x n ^^^ S (2 ^ n) else capp _ x n) = _
    split <;> rw [ih]
    rw [hS]
theorem capp_congr {m m' : Nat → Nat} (x : Nat) : ∀ n, (∀ i, i < n → m i = m' i) → capp m x n = capp m' x n
  | 0, _ => rfl
  | n + 1, h => by
    show (if x / 2 ^ n % 2 = 1 then capp m x n ^^^ m n else capp m x n) = (if x / 2 ^ n % 2 = 1 then capp m' x n ^^^ m' n else capp m' x n)
    rw [capp_congr x n (fun i hi => h i (by omega)), h n (by omega)]
/-- A matrix of 32 numbers that is shifting by n bytes, applied to a number. -/
theorem capp_shift (m : Nat → Nat) (n : Nat) (hm : ∀ i, i < 32 → m i = cshift n (2 ^ i)) {x : Nat} (hx : x < 4294967296) : capp m x 32 = cshift n x := by
  rw [capp_congr x 32 hm, capp_lin (cshift n) (cshift_zero_right n) (cshift_xor n), Nat.mod_eq_of_lt hx]
end Go.Proofs.Ytcaodblmdaifjaa

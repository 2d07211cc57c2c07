/- The slots of a number: mathematics. -/
import Derived.Lib.BitFns
import Derived.Laws.BitsAllLaws
namespace Go.Proofs.Ytpdipcgchhibeaa
/-- The slots of a number, from the least one on. -/
def sl (m : Nat) : List Nat := (List.range 64).filter fun i => m.testBit i
/-- A number without another one's slots. -/
def minus (m t : Nat) : Nat := m &&& (18446744073709551615 - t)
theorem testBit_minus {m t : Nat} (ht : t < 18446744073709551616) (j : Nat) : (minus m t).testBit j = (m.testBit j && (decide (j < 64) && !t.testBit j)) := by
  unfold minus
  rw [Nat.testBit_and, show 18446744073709551615 - t = 2 ^ 64 - (t + 1) by omega, Nat.testBit_two_pow_sub_succ (by omega)]
theorem minus_lt {m t n : Nat} (h : m < 2 ^ n) : minus m t < 2 ^ n := by
  unfold minus
  exact Nat.lt_of_le_of_lt Nat.and_le_left h
theorem lt_64 {m n : Nat} (h : m < 2 ^ n) (hn : n ≤ 64) : m < 18446744073709551616 := Nat.lt_of_lt_of_le h (Nat.le_trans (Nat.pow_le_pow_right (by decide) hn) (by decide))
theorem minus_low {m t n i : Nat} (hm : m < 2 ^ n) (hn : n ≤ 64) (ht : t < 18446744073709551616) : (minus m t).testBit i = (m.testBit i && !t.testBit i) := by
  rw [testBit_minus ht]
  by_cases h : i < 64
  · simp [h]
  · rw [Nat.testBit_lt_two_pow (Nat.lt_of_lt_of_le hm (Nat.pow_le_pow_right (by decide) (by omega)))]
    simp
theorem bit_one (m i : Nat) : (m / 2 ^ i % 2 = 1) = (m.testBit i = true) := by
  rw [Nat.testBit_eq_decide_div_mod_eq]
  simp
theorem range_more {m a : Nat} (h : m < 2 ^ a) (d : Nat) : (List.range (a + d)).filter (fun i => m.testBit i) = (List.range a).filter fun i => m.testBit i := by
  rw [List.range_add, List.filter_append]
  have : ((List.range d).map (a + ·)).filter (fun i => m.testBit i) = [] := by
    rw [List.filter_eq_nil_iff]
    intro x hx
    obtain ⟨k, _, rfl⟩ := List.mem_map.1 hx
    rw [Nat.testBit_lt_two_pow (Nat.lt_of_lt_of_le h (Nat.pow_le_pow_right (by decide) (by omega)))]
    simp
  rw [this, List.append_nil]
theorem sl_range {m a : Nat} (h : m < 2 ^ a) (ha : a ≤ 64) : (List.range a).filter (fun i => m.testBit i) = sl m := by
  have e : 64 = a + (64 - a) := by omega
  unfold sl
  conv => rhs; rw [e]
  exact (range_more h _).symm
theorem mem_sl {m n i : Nat} (h : m < 2 ^ n) (hn : n ≤ 64) : i ∈ sl m ↔ m.testBit i = true := by
  unfold sl
  rw [List.mem_filter, List.mem_range]
  constructor
  · exact fun h => h.2
  · intro hb
    refine ⟨?_, hb⟩
    by_cases h64 : i < 64
    · exact h64
    · rw [Nat.testBit_lt_two_pow (Nat.lt_of_lt_of_le h (Nat.pow_le_pow_right (by decide) (by omega)))] at hb
      cases hb
theorem sl_lt {m n i : Nat} (h : m < 2 ^ n) (hn : n ≤ 64) (hi : i ∈ sl m) : i < n := by
  rw [← sl_range h hn] at hi
  exact List.mem_range.1 (List.mem_filter.1 hi).1
theorem sl_len {m n : Nat} (h : m < 2 ^ n) (hn : n ≤ 64) : (sl m).length ≤ n := by
  rw [← sl_range h hn]
  exact Nat.le_trans (List.length_filter_le _ _) (by rw [List.length_range]; exact Nat.le_refl _)
theorem sl_zero : sl 0 = [] := by decide
/-- How many of the lowest k bits are set. -/
def pc (k m : Nat) : Nat := ((List.range k).filter fun i => m.testBit i).length
theorem pc_succ (k m : Nat) : pc (k + 1) m = m % 2 + pc k (m / 2) := by
  unfold pc
  rw [List.range_succ_eq_map, List.filter_cons, List.filter_map]
  have e : ∀ x, ((fun i => m.testBit i) ∘ Nat.succ) x = (fun i => (m / 2).testBit i) x := fun x => Nat.testBit_succ m x
  rw [funext e]
  have h0 : m.testBit 0 = decide (m % 2 = 1) := Nat.testBit_zero m
  by_cases h : m % 2 = 1
  · simp [h0, h]
    omega
  · have : m % 2 = 0 := by omega
    simp [h0, this]
theorem pc_add (a b m : Nat) : pc (a + b) m = pc a m + pc b (m / 2 ^ a) := by
  induction a generalizing m with
  | zero => simp [pc]
  | succ a ih =>
    rw [show a + 1 + b = (a + b) + 1 by omega, pc_succ, pc_succ, ih, Nat.div_div_eq_div_mul, ← Nat.pow_succ', Nat.add_assoc]
theorem pc_mod (a m : Nat) : pc a (m % 2 ^ a) = pc a m := by
  unfold pc
  congr 1
  apply List.filter_congr
  intro i hi
  rw [Nat.testBit_mod_two_pow]
  simp [List.mem_range.1 hi]
theorem and_cut (k x y : Nat) : x &&& y = (x % 2 ^ k &&& y % 2 ^ k) + 2 ^ k * (x / 2 ^ k &&& y / 2 ^ k) := by
  rw [← Nat.and_mod_two_pow, ← Nat.and_div_two_pow]
  exact (Nat.mod_add_div _ _).symm
def f1 (b : Nat) : Nat := (b / 2 &&& 85) + (b &&& 85)
def f2 (b : Nat) : Nat := (b / 4 &&& 51) + (b &&& 51)
theorem low1 : ∀ b : Fin 256, ∀ c : Fin 2, ((b.val / 2 + 128 * c.val) % 256 &&& 85) = (b.val / 2 &&& 85) := by decide +kernel
theorem low2 : ∀ b : Fin 256, ∀ c : Fin 4, ((b.val / 4 + 64 * c.val) % 256 &&& 51) = (b.val / 4 &&& 51) := by decide +kernel
theorem f1_lt : ∀ b : Fin 256, f1 b.val < 256 := by decide +kernel
theorem f_pop : ∀ b : Fin 256, f2 (f1 b.val) % 16 ≤ 4 ∧ f2 (f1 b.val) / 16 ≤ 4 ∧ f2 (f1 b.val) % 16 + f2 (f1 b.val) / 16 = pc 8 b.val := by decide +kernel
theorem one_byte (M b r : Nat) (hb : b < 256) (hM : M % 256 = 85) : ((b + 256 * r) / 2 &&& M) + (b + 256 * r &&& M) = f1 b + 256 * ((r / 2 &&& M / 256) + (r &&& M / 256)) := by
  have e1 := and_cut 8 ((b + 256 * r) / 2) M
  have e2 := and_cut 8 (b + 256 * r) M
  have p8 : (2 : Nat) ^ 8 = 256 := rfl
  rw [p8] at e1 e2
  have q1 : (b + 256 * r) / 2 % 256 = (b / 2 + 128 * (r % 2)) % 256 := by omega
  have q2 : (b + 256 * r) / 2 / 256 = r / 2 := by omega
  have q3 : (b + 256 * r) % 256 = b := by omega
  have q4 : (b + 256 * r) / 256 = r := by omega
  have l := low1 ⟨b, hb⟩ ⟨r % 2, by omega⟩
  simp only at l
  rw [q1, q2, hM, l] at e1
  rw [q3, q4, hM] at e2
  rw [e1, e2]
  unfold f1
  omega
theorem two_byte (M b r : Nat) (hb : b < 256) (hM : M % 256 = 51) : ((b + 256 * r) / 4 &&& M) + (b + 256 * r &&& M) = f2 b + 256 * ((r / 4 &&& M / 256) + (r &&& M / 256)) := by
  have e1 := and_cut 8 ((b + 256 * r) / 4) M
  have e2 := and_cut 8 (b + 256 * r) M
  have p8 : (2 : Nat) ^ 8 = 256 := rfl
  rw [p8] at e1 e2
  have q1 : (b + 256 * r) / 4 % 256 = (b / 4 + 64 * (r % 4)) % 256 := by omega
  have q2 : (b + 256 * r) / 4 / 256 = r / 4 := by omega
  have q3 : (b + 256 * r) % 256 = b := by omega
  have q4 : (b + 256 * r) / 256 = r := by omega
  have l := low2 ⟨b, hb⟩ ⟨r % 4, by omega⟩
  simp only at l
  rw [q1, q2, hM, l] at e1
  rw [q3, q4, hM] at e2
  rw [e1, e2]
  unfold f2
  omega
theorem nib (M d r : Nat) (hd : d < 16) : (d + 16 * r &&& M) = (d &&& M % 16) + 16 * (r &&& M / 16) := by
  have e := and_cut 4 (d + 16 * r) M
  have p : (2 : Nat) ^ 4 = 16 := rfl
  rw [p, show (d + 16 * r) % 16 = d by omega, show (d + 16 * r) / 16 = r by omega] at e
  exact e
theorem nib15 (d : Nat) (hd : d < 16) : d &&& 15 = d := by
  rw [show (15 : Nat) = 2 ^ 4 - 1 from rfl, Nat.and_two_pow_sub_one_eq_mod]
  omega
/-- The numbers that bits.OnesCount64 reckons, one behind the other. -/
def o1 (m : Nat) : Nat := (m / 2 &&& 6148914691236517205) + (m &&& 6148914691236517205)
def o2 (x : Nat) : Nat := (x / 4 &&& 3689348814741910323) + (x &&& 3689348814741910323)
def o3 (x : Nat) : Nat := x / 16 + x &&& 1085102592571150095
theorem five {m : Nat} (h : m < 17179869184) : ∃ b0 b1 b2 b3 b4 : Nat, b0 < 256 ∧ b1 < 256 ∧ b2 < 256 ∧ b3 < 256 ∧ b4 < 4 ∧ m = b0 + 256 * (b1 + 256 * (b2 + 256 * (b3 + 256 * b4))) :=
  ⟨m % 256, m / 256 % 256, m / 65536 % 256, m / 16777216 % 256, m / 4294967296, by omega, by omega, by omega, by omega, by omega, by omega⟩
theorem o1_is {b0 b1 b2 b3 b4 : Nat} (h0 : b0 < 256) (h1 : b1 < 256) (h2 : b2 < 256) (h3 : b3 < 256) (h4 : b4 < 256) :
    o1 (b0 + 256 * (b1 + 256 * (b2 + 256 * (b3 + 256 * b4)))) = f1 b0 + 256 * (f1 b1 + 256 * (f1 b2 + 256 * (f1 b3 + 256 * f1 b4))) := by
  unfold o1
  rw [one_byte _ b0 _ h0 rfl, one_byte _ b1 _ h1 rfl, one_byte _ b2 _ h2 rfl, one_byte _ b3 _ h3 rfl]
  have e := one_byte (6148914691236517205 / 256 / 256 / 256 / 256) b4 0 h4 rfl
  simp only [Nat.mul_zero, Nat.add_zero, Nat.zero_div, Nat.zero_and] at e
  rw [e]
theorem o2_is {b0 b1 b2 b3 b4 : Nat} (h0 : b0 < 256) (h1 : b1 < 256) (h2 : b2 < 256) (h3 : b3 < 256) (h4 : b4 < 256) :
    o2 (b0 + 256 * (b1 + 256 * (b2 + 256 * (b3 + 256 * b4)))) = f2 b0 + 256 * (f2 b1 + 256 * (f2 b2 + 256 * (f2 b3 + 256 * f2 b4))) := by
  unfold o2
  rw [two_byte _ b0 _ h0 rfl, two_byte _ b1 _ h1 rfl, two_byte _ b2 _ h2 rfl, two_byte _ b3 _ h3 rfl]
  have e := two_byte (3689348814741910323 / 256 / 256 / 256 / 256) b4 0 h4 rfl
  simp only [Nat.mul_zero, Nat.add_zero, Nat.zero_div, Nat.zero_and] at e
  rw [e]
theorem o3_is {l0 l1 l2 l3 l4 k0 k1 k2 k3 k4 : Nat} (hl0 : l0 ≤ 4) (hl1 : l1 ≤ 4) (hl2 : l2 ≤ 4) (hl3 : l3 ≤ 4) (hl4 : l4 ≤ 4) (hk0 : k0 ≤ 4) (hk1 : k1 ≤ 4) (hk2 : k2 ≤ 4) (hk3 : k3 ≤ 4) (hk4 : k4 ≤ 4) :
    o3 (l0 + 16 * k0 + 256 * (l1 + 16 * k1 + 256 * (l2 + 16 * k2 + 256 * (l3 + 16 * k3 + 256 * (l4 + 16 * k4))))) = (l0 + k0) + 256 * ((l1 + k1) + 256 * ((l2 + k2) + 256 * ((l3 + k3) + 256 * (l4 + k4)))) := by
  unfold o3
  have e : (l0 + 16 * k0 + 256 * (l1 + 16 * k1 + 256 * (l2 + 16 * k2 + 256 * (l3 + 16 * k3 + 256 * (l4 + 16 * k4))))) / 16 + (l0 + 16 * k0 + 256 * (l1 + 16 * k1 + 256 * (l2 + 16 * k2 + 256 * (l3 + 16 * k3 + 256 * (l4 + 16 * k4))))) =
      (l0 + k0) + 16 * ((k0 + l1) + 16 * ((l1 + k1) + 16 * ((k1 + l2) + 16 * ((l2 + k2) + 16 * ((k2 + l3) + 16 * ((l3 + k3) + 16 * ((k3 + l4) + 16 * ((l4 + k4) + 16 * k4)))))))) := by omega
  rw [e, nib _ (l0 + k0) _ (by omega), nib _ (k0 + l1) _ (by omega), nib _ (l1 + k1) _ (by omega), nib _ (k1 + l2) _ (by omega), nib _ (l2 + k2) _ (by omega), nib _ (k2 + l3) _ (by omega), nib _ (l3 + k3) _ (by omega), nib _ (k3 + l4) _ (by omega), nib _ (l4 + k4) _ (by omega)]
  have z := nib (1085102592571150095 / 16 / 16 / 16 / 16 / 16 / 16 / 16 / 16 / 16) k4 0 (by omega)
  simp only [Nat.mul_zero, Nat.add_zero, Nat.zero_and] at z
  rw [z]
  simp only [Nat.reduceMod, Nat.reduceDiv, Nat.and_zero, nib15 (l0 + k0) (by omega), nib15 (l1 + k1) (by omega), nib15 (l2 + k2) (by omega), nib15 (l3 + k3) (by omega), nib15 (l4 + k4) (by omega), Nat.zero_add]
  clear e z
  omega
theorem last_is {y0 y1 y2 y3 y4 a b c : Nat} (r0 : y0 ≤ 8) (r1 : y1 ≤ 8) (r2 : y2 ≤ 8) (r3 : y3 ≤ 8) (r4 : y4 ≤ 8)
    (ha : a = (y0 + 256 * (y1 + 256 * (y2 + 256 * (y3 + 256 * y4)))) + (y0 + 256 * (y1 + 256 * (y2 + 256 * (y3 + 256 * y4)))) / 256) (hb : b = a + a / 65536) (hc : c = b + b / 4294967296) : c % 128 = y0 + (y1 + (y2 + (y3 + y4))) := by
  have ha' : a = (y0 + y1) + 256 * ((y1 + y2) + 256 * ((y2 + y3) + 256 * ((y3 + y4) + 256 * y4))) := by omega
  have hb' : b = (y0 + y1 + y2 + y3) + 256 * ((y1 + y2 + y3 + y4) + 256 * ((y2 + y3 + y4) + 256 * ((y3 + y4) + 256 * y4))) := by omega
  have hc' : c = (y0 + y1 + y2 + y3 + y4) + 256 * ((y1 + y2 + y3 + y4) + 256 * ((y2 + y3 + y4) + 256 * ((y3 + y4) + 256 * y4))) := by omega
  omega
/-- What the last steps give. -/
theorem ones_is {m : Nat} (h : m < 17179869184) : ∃ x : Nat, o3 (o2 (o1 m)) = x ∧ o1 m < 18446744073709551616 ∧ o2 (o1 m) < 1099511627776 ∧ x < 1099511627776 ∧ (∀ a b c : Nat, a = x + x / 256 → b = a + a / 65536 → c = b + b / 4294967296 → c % 128 = (sl m).length) := by
  have hsl : (sl m).length = pc 40 m := by
    unfold pc
    rw [sl_range (a := 40) (by omega) (by decide)]
  obtain ⟨b0, b1, b2, b3, b4, h0, h1, h2, h3, h4, rfl⟩ := five h
  have p0 := f_pop ⟨b0, h0⟩
  have p1 := f_pop ⟨b1, h1⟩
  have p2 := f_pop ⟨b2, h2⟩
  have p3 := f_pop ⟨b3, h3⟩
  have p4 := f_pop ⟨b4, by omega⟩
  have q0 := f1_lt ⟨b0, h0⟩
  have q1 := f1_lt ⟨b1, h1⟩
  have q2 := f1_lt ⟨b2, h2⟩
  have q3 := f1_lt ⟨b3, h3⟩
  have q4 := f1_lt ⟨b4, by omega⟩
  simp only at p0 p1 p2 p3 p4 q0 q1 q2 q3 q4
  have hpc : pc 40 (b0 + 256 * (b1 + 256 * (b2 + 256 * (b3 + 256 * b4)))) = pc 8 b0 + (pc 8 b1 + (pc 8 b2 + (pc 8 b3 + pc 8 b4))) := by
    have st : ∀ k b r, b < 256 → pc (8 + k) (b + 256 * r) = pc 8 b + pc k r := fun k b r hb => by
      rw [pc_add, ← pc_mod 8 (b + 256 * r)]
      rw [show (2 : Nat) ^ 8 = 256 from rfl, show (b + 256 * r) % 256 = b by omega, show (b + 256 * r) / 256 = r by omega]
    rw [show (40 : Nat) = 8 + (8 + (8 + (8 + 8))) from rfl, st _ _ _ h0, st _ _ _ h1, st _ _ _ h2, st _ _ _ h3]
  rw [hsl, hpc, o1_is h0 h1 h2 h3 (by omega), o2_is q0 q1 q2 q3 q4]
  obtain ⟨x0, hx0⟩ : ∃ x, x = f2 (f1 b0) := ⟨_, rfl⟩
  obtain ⟨x1, hx1⟩ : ∃ x, x = f2 (f1 b1) := ⟨_, rfl⟩
  obtain ⟨x2, hx2⟩ : ∃ x, x = f2 (f1 b2) := ⟨_, rfl⟩
  obtain ⟨x3, hx3⟩ : ∃ x, x = f2 (f1 b3) := ⟨_, rfl⟩
  obtain ⟨x4, hx4⟩ : ∃ x, x = f2 (f1 b4) := ⟨_, rfl⟩
  rw [← hx0] at p0 ⊢
  rw [← hx1] at p1 ⊢
  rw [← hx2] at p2 ⊢
  rw [← hx3] at p3 ⊢
  rw [← hx4] at p4 ⊢
  have e := o3_is (l0 := x0 % 16) (l1 := x1 % 16) (l2 := x2 % 16) (l3 := x3 % 16) (l4 := x4 % 16) (k0 := x0 / 16) (k1 := x1 / 16) (k2 := x2 / 16) (k3 := x3 / 16) (k4 := x4 / 16) p0.1 p1.1 p2.1 p3.1 p4.1 p0.2.1 p1.2.1 p2.2.1 p3.2.1 p4.2.1
  rw [show x0 % 16 + 16 * (x0 / 16) = x0 by omega, show x1 % 16 + 16 * (x1 / 16) = x1 by omega, show x2 % 16 + 16 * (x2 / 16) = x2 by omega, show x3 % 16 + 16 * (x3 / 16) = x3 by omega, show x4 % 16 + 16 * (x4 / 16) = x4 by omega] at e
  refine ⟨_, e, by omega, by omega, by omega, ?_⟩
  rw [p0.2.2, p1.2.2, p2.2.2, p3.2.2, p4.2.2]
  obtain ⟨y0, hy0⟩ : ∃ y, y = pc 8 b0 := ⟨_, rfl⟩
  obtain ⟨y1, hy1⟩ : ∃ y, y = pc 8 b1 := ⟨_, rfl⟩
  obtain ⟨y2, hy2⟩ : ∃ y, y = pc 8 b2 := ⟨_, rfl⟩
  obtain ⟨y3, hy3⟩ : ∃ y, y = pc 8 b3 := ⟨_, rfl⟩
  obtain ⟨y4, hy4⟩ : ∃ y, y = pc 8 b4 := ⟨_, rfl⟩
  have r0 : y0 ≤ 8 := by omega
  have r1 : y1 ≤ 8 := by omega
  have r2 : y2 ≤ 8 := by omega
  have r3 : y3 ≤ 8 := by omega
  have r4 : y4 ≤ 8 := by omega
  rw [← hy0, ← hy1, ← hy2, ← hy3, ← hy4]
  clear hy0 hy1 hy2 hy3 hy4 p0 p1 p2 p3 p4 e hx0 hx1 hx2 hx3 hx4 hpc hsl h q0 q1 q2 q3 q4
  exact fun a b c ha hb hc => last_is r0 r1 r2 r3 r4 ha hb hc
end Go.Proofs.Ytpdipcgchhibeaa

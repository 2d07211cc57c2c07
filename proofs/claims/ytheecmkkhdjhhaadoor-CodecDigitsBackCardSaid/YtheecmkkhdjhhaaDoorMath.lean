/- Plain mathematics for layer 1: little-endian numbers and their bytes. No program is named here. -/
import Derived.WalkKit
namespace Go.Proofs.YtheecmkkhdjhhaaDoor

/-- Whether a number is a width. -/
def isW (n : Int) : Bool := n == 1 || n == 2 || n == 4 || n == 8
theorem isW_cases {k : Int} (h : isW k = true) : k = 1 ∨ k = 2 ∨ k = 4 ∨ k = 8 := by unfold isW at h; simp at h; omega
theorem isW_bd {k : Int} (h : isW k = true) : 1 ≤ k ∧ k ≤ 8 := by have := isW_cases h; omega
def fitsB (n k : Int) : Bool := isW k && decide (n < 256 ^ k.toNat)

/-- The number whose bytes are l, the least significant one first. -/
def dec (l : List Int) : Int := l.foldr (fun z a => z + 256 * a) 0
/-- The k bytes of n, the least significant one first. -/
def enc (n : Int) (k : Nat) : List Int := (List.range k).map fun i => n / 256 ^ i % 256

@[simp] theorem dec_nil : dec [] = 0 := rfl
theorem dec_cons (z : Int) (l : List Int) : dec (z :: l) = z + 256 * dec l := rfl
theorem dec_append (a b : List Int) : dec (a ++ b) = dec a + 256 ^ a.length * dec b := by
  induction a with
  | nil => simp
  | cons z a ih =>
    rw [List.cons_append, dec_cons, dec_cons, ih, List.length_cons, Int.pow_succ, Int.mul_add, ← Int.mul_assoc, Int.mul_comm (256 ^ a.length) 256, Int.add_assoc]
theorem dec_snoc (l : List Int) (z : Int) : dec (l ++ [z]) = dec l + z * 256 ^ l.length := by
  rw [dec_append, dec_cons]; simp [Int.mul_comm]
theorem dec_bd (l : List Int) (h : ∀ z ∈ l, 0 ≤ z ∧ z ≤ 255) : 0 ≤ dec l ∧ dec l < 256 ^ l.length := by
  induction l with
  | nil => simp
  | cons z l ih =>
    have h1 := h z (by simp)
    have h2 := ih fun y hy => h y (by simp [hy])
    rw [dec_cons, List.length_cons, Int.pow_succ]
    omega
theorem take_succ_ints (l : List Int) (j : Nat) (h : j < l.length) : l.take (j + 1) = l.take j ++ [l[j]?.getD 0] := by
  rw [List.take_succ_eq_append_getElem h, List.getElem?_eq_getElem h]; rfl
theorem length_enc (n : Int) (k : Nat) : (enc n k).length = k := by simp [enc]
theorem enc_zero (n : Int) : enc n 0 = [] := rfl
theorem enc_succ (n : Int) (k : Nat) : enc n (k + 1) = enc n k ++ [n / 256 ^ k % 256] := by simp [enc, List.range_succ]
theorem enc_bd (n : Int) (k : Nat) : ∀ z ∈ enc n k, 0 ≤ z ∧ z ≤ 255 := by
  intro z hz
  simp only [enc, List.mem_map] at hz
  obtain ⟨i, _, rfl⟩ := hz
  omega
theorem dec_enc (n : Int) (k : Nat) : dec (enc n k) = n % 256 ^ k := by
  induction k with
  | zero => simp [enc_zero, Int.emod_one]
  | succ k ih =>
    rw [enc_succ, dec_snoc, length_enc, ih, Int.pow_succ, Int.emod_mul_right_eq_of_pow n k]
where
  Int.emod_mul_right_eq_of_pow (n : Int) (k : Nat) : n % 256 ^ k + n / 256 ^ k % 256 * 256 ^ k = n % (256 ^ k * 256) := by
    have hp : (0 : Int) < 256 ^ k := Int.pow_pos (by decide)
    have h1 : n / (256 ^ k * 256) = n / 256 ^ k / 256 := by rw [Int.ediv_ediv_of_nonneg (Int.le_of_lt hp)]
    have h2 := Int.emod_def n (256 ^ k * 256)
    have h3 := Int.emod_def n (256 ^ k)
    have h4 := Int.emod_def (n / 256 ^ k) 256
    rw [h2, h3, h4, h1, Int.sub_mul, Int.mul_assoc, Int.mul_comm (n / 256 ^ k) (256 ^ k), Int.mul_comm 256 _, Int.mul_assoc, Int.mul_comm (n / 256 ^ k / 256) _]
    have : (256 : Int) ^ k * (256 * (n / 256 ^ k / 256)) = 256 * ((n / 256 ^ k / 256) * 256 ^ k) := by
      rw [Int.mul_left_comm, Int.mul_comm (256 ^ k)]
    omega
theorem pow_two_eight (j : Nat) : (2 : Int) ^ (8 * j) = 256 ^ j := by rw [Int.pow_mul]; rfl

/-- A byte is laid above the bytes that there are: 'n |= uint64(c) << (8 * j)'. -/
theorem or_step (a z : Int) (j : Nat) (hj : j < 8) (ha : 0 ≤ a ∧ a < 256 ^ j) (hz : 0 ≤ z ∧ z ≤ 255) :
    bits .or .u64 a (IntKind.u64.wrap (IntKind.u64.wrap z * 2 ^ (8 * j))) = a + z * 256 ^ j := by
  rw [IntWalk.u64_in z ⟨hz.1, by omega⟩, pow_two_eight]
  obtain ⟨a, rfl⟩ := Int.eq_ofNat_of_zero_le ha.1
  obtain ⟨z, rfl⟩ := Int.eq_ofNat_of_zero_le hz.1
  have hz2 : z ≤ 255 := by omega
  have hp : 256 * 256 ^ j ≤ 18446744073709551616 := by
    have : 256 ^ (j + 1) ≤ 256 ^ 8 := Nat.pow_le_pow_right (by decide) (by omega)
    rw [Nat.pow_succ, Nat.mul_comm] at this
    exact this
  have h3 := fun (b : Nat) (hb : b < 2 ^ (8 * j)) => Nat.two_pow_add_eq_or_of_lt (i := 8 * j) (b := b) hb z
  have e2 : (2 : Nat) ^ (8 * j) = 256 ^ j := by rw [Nat.pow_mul]
  rw [e2] at h3
  have eP : (256 : Int) ^ j = ((256 ^ j : Nat) : Int) := by rw [Int.natCast_pow]; rfl
  rw [eP] at ha ⊢
  generalize 256 ^ j = p at ha hp h3 ⊢
  have ha2 : a < p := by omega
  have hm : z * p + p ≤ 256 * p := by
    have := Nat.mul_le_mul_right p (show z + 1 ≤ 256 by omega)
    rw [Nat.add_mul, Nat.one_mul] at this
    exact this
  have e : (z : Int) * (p : Int) = ((z * p : Nat) : Int) := (Int.natCast_mul z p).symm
  have h4 := h3 a ha2
  rw [Nat.mul_comm, Nat.or_comm] at h4
  rw [e, IntWalk.u64_in _ ⟨by omega, by omega⟩, u64_or_nat a _ (by omega) (by omega), ← h4]
  omega
end Go.Proofs.YtheecmkkhdjhhaaDoor

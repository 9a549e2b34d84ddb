/- Plain facts on numbers and lists of bytes: no program. -/
import Derived.Lib.VarintBits
import Derived.Laws.Bits64b
namespace Go.Proofs.Yticgkjcdhmejcaa

/-- L is how many bits x has. -/
def IsLen (x L : Nat) : Prop := x < 2 ^ L ∧ (0 < L → 2 ^ (L - 1) ≤ x)

theorem isLen_shift {x s q l : Nat} (hq : x / 2 ^ s = q) (hl : IsLen q l) (hp : 0 < l) : IsLen x (s + l) := by
  have hs : 0 < 2 ^ s := Nat.two_pow_pos s
  obtain ⟨h1, h2⟩ := hl
  have h3 := h2 hp
  rw [← hq] at h1 h3
  refine ⟨?_, fun _ => ?_⟩
  · rw [Nat.pow_add, Nat.mul_comm]; exact (Nat.div_lt_iff_lt_mul hs).1 h1
  · have e : s + l - 1 = s + (l - 1) := by omega
    rw [e, Nat.pow_add, Nat.mul_comm]
    exact (Nat.le_div_iff_mul_le hs).1 h3

/-- S is how many bytes of seven bits n has (at least one). -/
def IsSize (n S : Nat) : Prop := 1 ≤ S ∧ S ≤ 10 ∧ n < 128 ^ S ∧ (1 < S → 128 ^ (S - 1) ≤ n)

theorem isSize_of {n L : Nat} (h : IsLen (2 * (n / 2) + 1) L) (hL : L ≤ 64) : IsSize n ((L + 6) / 7) := by
  obtain ⟨h1, h2⟩ := h
  have hpos : 0 < L := by
    rcases Nat.eq_zero_or_pos L with h0 | h0
    · subst h0; simp at h1
    · exact h0
  have h3 := h2 hpos
  have e7 : ∀ k : Nat, (128 : Nat) ^ k = 2 ^ (7 * k) := fun k => by rw [Nat.pow_mul]
  refine ⟨by omega, by omega, ?_, fun hS => ?_⟩
  · rw [e7]
    have : 2 ^ L ≤ 2 ^ (7 * ((L + 6) / 7)) := Nat.pow_le_pow_right (by decide) (by omega)
    omega
  · rw [e7]
    have hle : 2 ^ (7 * ((L + 6) / 7 - 1)) ≤ 2 ^ (L - 1) := Nat.pow_le_pow_right (by decide) (by omega)
    have e2 : 7 * ((L + 6) / 7 - 1) = (7 * ((L + 6) / 7 - 1) - 1) + 1 := by omega
    have e3 : 2 ^ (7 * ((L + 6) / 7 - 1)) = 2 * 2 ^ (7 * ((L + 6) / 7 - 1) - 1) := by
      conv => lhs; rw [e2, Nat.pow_succ, Nat.mul_comm]
    omega

theorem isSize_unique {n S T : Nat} (h : IsSize n S) (k : IsSize n T) : S = T := by
  obtain ⟨a1, a2, a3, a4⟩ := h
  obtain ⟨b1, b2, b3, b4⟩ := k
  rcases Nat.lt_trichotomy S T with h | h | h
  · have h1 := b4 (by omega)
    have h2 : 128 ^ S ≤ 128 ^ (T - 1) := Nat.pow_le_pow_right (by decide) (by omega)
    omega
  · exact h
  · have h1 := a4 (by omega)
    have h2 : 128 ^ T ≤ 128 ^ (S - 1) := Nat.pow_le_pow_right (by decide) (by omega)
    omega

theorem or_one (n : Nat) (h : n < 18446744073709551616) : bits .or .u64 (n : Int) 1 = ((2 * (n / 2) + 1 : Nat) : Int) := by
  rw [show (1 : Int) = ((1 : Nat) : Int) from rfl, bits_or_u64_nat n 1 h (by decide)]
  congr 1
  apply Nat.eq_of_testBit_eq
  intro i
  rw [Nat.testBit_or]
  cases i with
  | zero => simp [Nat.testBit_zero]
  | succ i =>
    rw [Nat.testBit_succ, Nat.testBit_succ, Nat.testBit_succ]
    have e1 : (2 * (n / 2) + 1) / 2 = n / 2 := by omega
    rw [e1]; simp

theorem or_128 : ∀ n : Fin 256, bits .or .u8 ((n.val : Nat) : Int) 128 = ((n.val % 128 + 128 : Nat) : Int) := by decide +kernel
theorem clr_128 : ∀ n : Fin 256, bits .andNot .u8 ((n.val : Nat) : Int) 128 = ((n.val % 128 : Nat) : Int) := by decide +kernel

/-- The number that stands first, from the i-th byte on, and how many bytes it has. -/
def getv : List Nat → Nat → Option (Nat × Nat)
  | [], _ => none
  | b :: r, i => if i = 9 ∧ 1 < b then none else if b < 128 then some (b, 1) else (getv r (i + 1)).map fun p => (b % 128 + 128 * p.1, p.2 + 1)

theorem drop_cons {bs : List Nat} {k : Nat} (h : k < bs.length) : bs.drop k = bs.getD k 0 :: bs.drop (k + 1) := by
  rw [List.drop_eq_getElem_cons h]
  simp [h]

theorem getv_stop {bs : List Nat} {k acc : Nat} (h : k = bs.length) (hr : getv bs 0 = (getv (bs.drop k) k).map fun p => (acc + 128 ^ k * p.1, k + p.2)) : getv bs 0 = none := by
  rw [hr, h, List.drop_length]; rfl

theorem getv_bad {bs : List Nat} {k acc : Nat} (h : k < bs.length) (h9 : k = 9) (hb : 1 < bs.getD k 0) (hr : getv bs 0 = (getv (bs.drop k) k).map fun p => (acc + 128 ^ k * p.1, k + p.2)) : getv bs 0 = none := by
  rw [hr, drop_cons h, getv, if_pos ⟨h9, hb⟩]; rfl

theorem getv_hit {bs : List Nat} {k acc : Nat} (h : k < bs.length) (hb : bs.getD k 0 < 128) (hn : ¬ (k = 9 ∧ 1 < bs.getD k 0)) (hr : getv bs 0 = (getv (bs.drop k) k).map fun p => (acc + 128 ^ k * p.1, k + p.2)) :
    getv bs 0 = some (acc + 128 ^ k * (bs.getD k 0 % 128), k + 1) := by
  rw [hr, drop_cons h, getv, if_neg hn, if_pos hb, Nat.mod_eq_of_lt hb]; rfl

theorem getv_more {bs : List Nat} {k acc : Nat} (h : k < bs.length) (hb : ¬ bs.getD k 0 < 128) (hn : ¬ (k = 9 ∧ 1 < bs.getD k 0)) (hr : getv bs 0 = (getv (bs.drop k) k).map fun p => (acc + 128 ^ k * p.1, k + p.2)) :
    getv bs 0 = (getv (bs.drop (k + 1)) (k + 1)).map fun p => (acc + 128 ^ k * (bs.getD k 0 % 128) + 128 ^ (k + 1) * p.1, k + 1 + p.2) := by
  rw [hr, drop_cons h, getv, if_neg hn, if_neg hb, Option.map_map]
  congr 1
  funext p
  simp only [Function.comp]
  rw [Nat.mul_add, Nat.pow_succ, Nat.mul_assoc]
  congr 1 <;> omega

theorem acc_lt {k acc b : Nat} (h : acc < 128 ^ k) : acc + 128 ^ k * (b % 128) < 128 ^ (k + 1) := by
  have hb : b % 128 ≤ 127 := by omega
  have : 128 ^ k * (b % 128) ≤ 128 ^ k * 127 := Nat.mul_le_mul_left _ hb
  rw [Nat.pow_succ]
  omega

/-- What 'n |= uint64(b[i]&^128) << (7*i)' comes to. -/
theorem or_acc {k acc x : Nat} (hx : x < 256) (hacc : acc < 128 ^ k) (hk : k < 9 ∨ k = 9 ∧ x ≤ 1) :
    bits .or .u64 (acc : Int) (IntKind.u64.wrap (IntKind.u64.wrap (bits .andNot .u8 (x : Int) 128) * 2 ^ (7 * k))) = ((acc + 128 ^ k * (x % 128) : Nat) : Int) := by
  have e7 : (128 : Nat) ^ k = 2 ^ (7 * k) := by rw [Nat.pow_mul]
  rw [clr_128 ⟨x, hx⟩]
  simp only
  have hm : x % 128 < 128 := Nat.mod_lt _ (by decide)
  have e1 : IntKind.u64.wrap ((x % 128 : Nat) : Int) = ((x % 128 : Nat) : Int) := by rw [IntKind.wrap_u64]; omega
  have hlt : 2 ^ (7 * k) * (x % 128) < 2 ^ 64 := by
    rcases hk with hk | ⟨rfl, hx1⟩
    · have h1 : 2 ^ (7 * k) * (x % 128) < 2 ^ (7 * k) * 2 ^ 7 := Nat.mul_lt_mul_of_pos_left (by omega) (Nat.two_pow_pos _)
      have h2 : 2 ^ (7 * k) * 2 ^ 7 = 2 ^ (7 * k + 7) := (Nat.pow_add 2 (7 * k) 7).symm
      have h3 : 2 ^ (7 * k + 7) ≤ 2 ^ 64 := Nat.pow_le_pow_right (by decide) (by omega)
      omega
    · have : x % 128 ≤ 1 := by omega
      have h1 : 2 ^ (7 * 9) * (x % 128) ≤ 2 ^ (7 * 9) * 1 := Nat.mul_le_mul_left _ this
      omega
  have e2 : (((x % 128 : Nat) : Int) * 2 ^ (7 * k)) = ((2 ^ (7 * k) * (x % 128) : Nat) : Int) := by
    rw [Int.natCast_mul, Int.natCast_pow, Int.mul_comm]; rfl
  have e3 : IntKind.u64.wrap ((2 ^ (7 * k) * (x % 128) : Nat) : Int) = ((2 ^ (7 * k) * (x % 128) : Nat) : Int) := by
    rw [IntKind.wrap_u64]; omega
  rw [e1, e2, e3, e7]
  rw [e7] at hacc
  have hk64 : 2 ^ (7 * k) ≤ 2 ^ 64 := Nat.pow_le_pow_right (by decide) (by omega)
  rw [bits_join_low .u64 64 (by decide) wraps_u64 (7 * k) (acc : Int) _ (by omega) (by exact_mod_cast hacc) (by omega) (by omega) (by
    have : (2 ^ (7 * k) * (x % 128)) % 2 ^ (7 * k) = 0 := Nat.mul_mod_right _ _
    exact_mod_cast this) (by exact_mod_cast hlt)]
  exact (Int.natCast_add _ _).symm

end Go.Proofs.Yticgkjcdhmejcaa

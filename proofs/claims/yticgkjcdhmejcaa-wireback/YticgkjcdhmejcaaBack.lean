/- What a number's bytes are is that number: plain facts. -/
import Derived.Test.YticgkjcdhmejcaaPut
namespace Go.Proofs.Yticgkjcdhmejcaa

def encR : Nat → Nat → List Nat
  | 0, n => [n]
  | s + 1, n => (n % 128 + 128) :: encR s (n / 128)

theorem pre_succ (n k : Nat) : pre n (k + 1) = (n % 128 + 128) :: pre (n / 128) k := by
  induction k with
  | zero => simp [pre]
  | succ k ih =>
    rw [pre, ih, pre]
    have : n / 128 ^ (k + 1) = n / 128 / 128 ^ k := by rw [Nat.pow_succ, Nat.mul_comm, Nat.div_div_eq_div_mul]
    rw [this]; rfl

theorem encR_eq (n k : Nat) : pre n k ++ [n / 128 ^ k] = encR k n := by
  induction k generalizing n with
  | zero => simp [pre, encR]
  | succ k ih =>
    have : n / 128 ^ (k + 1) = n / 128 / 128 ^ k := by rw [Nat.pow_succ, Nat.mul_comm, Nat.div_div_eq_div_mul]
    rw [pre_succ, encR, this, ← ih]; rfl

theorem enc_eq (n S : Nat) : enc n S = encR (S - 1) n := encR_eq n (S - 1)
theorem encR_length (s n : Nat) : (encR s n).length = s + 1 := by induction s generalizing n with | zero => rfl | succ s ih => simp [encR, ih]
theorem encR_lt (s n : Nat) (h : n < 128 ^ (s + 1)) : ∀ x ∈ encR s n, x < 256 := by
  induction s generalizing n with
  | zero => intro x hx; simp [encR] at hx; subst hx; simp at h; omega
  | succ s ih =>
    intro x hx
    simp [encR] at hx
    rcases hx with rfl | hx
    · omega
    · exact ih (n / 128) (by rw [Nat.div_lt_iff_lt_mul (by decide)]; rw [Nat.pow_succ] at h; exact h) x hx

theorem getv_enc (s n i : Nat) (more : List Nat) (h : n < 128 ^ (s + 1)) (hi : i + s ≤ 9) (h9 : i + s = 9 → n / 128 ^ s ≤ 1) : getv (encR s n ++ more) i = some (n, s + 1) := by
  induction s generalizing n i with
  | zero =>
    simp at h h9
    show getv (n :: more) i = _
    rw [getv, if_neg (by omega), if_pos (by omega)]
  | succ s ih =>
    have h1 : n / 128 < 128 ^ (s + 1) := by rw [Nat.div_lt_iff_lt_mul (by decide)]; rw [Nat.pow_succ] at h; exact h
    have h2 : n / 128 ^ (s + 1) = n / 128 / 128 ^ s := by rw [Nat.pow_succ, Nat.mul_comm, Nat.div_div_eq_div_mul]
    show getv ((n % 128 + 128) :: (encR s (n / 128) ++ more)) i = _
    rw [getv, if_neg (by omega), if_neg (by omega), ih (n / 128) (i + 1) h1 (by omega) (by rw [← h2]; intro h; exact h9 (by omega))]
    simp only [Option.map_some]
    congr 2
    omega

theorem getv_cut (s n i c : Nat) (hc : c ≤ s) (hi : i + s ≤ 9) : getv ((encR s n).take c) i = none := by
  induction s generalizing n i c with
  | zero =>
    obtain rfl : c = 0 := by omega
    rfl
  | succ s ih =>
    cases c with
    | zero => rfl
    | succ c =>
      show getv ((n % 128 + 128) :: (encR s (n / 128)).take c) i = none
      rw [getv, if_neg (by omega), if_neg (by omega), ih (n / 128) (i + 1) c (by omega) (by omega)]; rfl

theorem enc_length {n S : Nat} (h : IsSize n S) : (enc n S).length = S := by rw [enc_eq, encR_length]; have := h.1; omega
theorem enc_lt {n S : Nat} (h : IsSize n S) : ∀ x ∈ enc n S, x < 256 := by
  rw [enc_eq]; exact encR_lt _ _ (by rw [show S - 1 + 1 = S from by have := h.1; omega]; exact h.2.2.1)
theorem back {n S : Nat} (h : IsSize n S) (hn : n < 18446744073709551616) (more : List Nat) : getv (enc n S ++ more) 0 = some (n, S) := by
  have h1 := h.1
  have h2 := h.2.1
  rw [enc_eq, getv_enc (S - 1) n 0 more (by rw [show S - 1 + 1 = S from by omega]; exact h.2.2.1) (by omega) (fun h9 => by
    rw [show S - 1 = 9 from by omega]
    have : n / 128 ^ 9 < 2 := by rw [Nat.div_lt_iff_lt_mul (by decide)]; omega
    omega)]
  rw [show S - 1 + 1 = S from by omega]
theorem back_cut {n S c : Nat} (h : IsSize n S) (hc : c < S) : getv ((enc n S).take c) 0 = none := by
  have h1 := h.1
  have h2 := h.2.1
  rw [enc_eq]; exact getv_cut _ _ _ _ (by omega) (by omega)
end Go.Proofs.Yticgkjcdhmejcaa

/- PutFixed and PutTag, and the document's Fixed and Tag. -/
import Derived.Test.YticgkjcdhmejcaaDoorRefPut
namespace Go.Proofs.YticgkjcdhmejcaaDoor
open Go.RowKit
set_option linter.unusedVariables false

/-- The least k bytes of a number. -/
def fixB (n : Nat) : Nat → List Nat
  | 0 => []
  | k + 1 => fixB n k ++ [n / 256 ^ k % 256]
theorem fixB_length (n k : Nat) : (fixB n k).length = k := by induction k with | zero => rfl | succ k ih => simp [fixB, ih]
theorem fixB_lt (n k : Nat) : ∀ x ∈ fixB n k, x < 256 := by
  induction k with
  | zero => intro x hx; cases hx
  | succ k ih =>
    intro x hx
    rcases List.mem_append.1 hx with h | h
    · exact ih x h
    · simp at h; omega

/-- many, cut to 0 to 8. -/
def clamp (m : Int) : Nat := (min (max m 0) 8).toNat
theorem clamp_le (m : Int) : clamp m ≤ 8 := by unfold clamp; omega

set_option maxHeartbeats 1000000 in
set_option maxRecDepth 100000 in
theorem rfix_any (n k : Nat) (w : World) (hn : n < 18446744073709551616) (hk8 : k ≤ 8) :
    Calls Tryd.prog 13 #[.int .u64 (n : Int), .int .i64 (k : Int)] w fun e w' => e = .returned (.string (str (fixB n k))) ∧ Kept w.heap.size w w' := by
  go_enter Tryd.func13, Tryd.ntmps13
  go_wp2
  go_loopw [0, 5, 6] (fun q s i wr => ∃ (j q0 : Nat) (s0 : ByteArray), j ≤ k ∧ i = .int .i64 j ∧ q = .int .u64 (q0 : Int) ∧ q0 ≤ n ∧ Hid (q0 = n / 256 ^ j) ∧ s = .string s0 ∧ s0.size ≤ 8 ∧ Hid (s0 = str (fixB n j)) ∧ Kept w.heap.size w wr) (fun _ _ i _ => k - (intOf i).toNat)
  case atStart => exact ⟨0, n, ⟨#[]⟩, Nat.zero_le _, rfl, rfl, Nat.le_refl _, by show n = n / 256 ^ 0; simp, rfl, by show (0 : Nat) ≤ 8; omega, by show (⟨#[]⟩ : ByteArray) = _; rfl, Kept.refl _ _⟩
  case round =>
    obtain ⟨j, q, s0, hj, rfl, rfl, hqn, HQ, rfl, hs8, HS, hk⟩ := hrel
    by_cases hlt : j < k
    · obtain ⟨x, hx⟩ : ∃ x, x = q % 256 := ⟨_, rfl⟩
      have hbyte : (q : Int) % 256 = (x : Int) := by omega
      have HX : Hid (x = q % 256) := hx
      have hcv := conv_one x (by omega)
      have z1 : (str [x]).size = 1 := by rw [str_size]; rfl
      have hs7 : s0.size ≤ 7 := by rw [HS.out, str_size, fixB_length]; omega
      have HS' : Hid (s0 ++ str [x] = str (fixB n (j + 1))) := by
        show s0 ++ str [x] = _
        rw [fixB, str_app, HS.out, HX.out, HQ.out]
      have hs8' : (s0 ++ str [x]).size ≤ 8 := by rw [HS'.out, str_size, fixB_length]; omega
      have HQ' : Hid (q / 256 = n / 256 ^ (j + 1)) := by
        show q / 256 = n / 256 ^ (j + 1)
        rw [HQ.out, Nat.pow_succ, Nat.div_div_eq_div_mul]
      clear hx
      go_wp2
      go_roundw
      case rel => exact ⟨j + 1, q / 256, _, by omega, by go_num, by go_num, by omega, HQ', rfl, hs8', HS', hk.alloc hk.size _⟩
      case measure => simp [intOf]; omega
    · have HJ : Hid (j = k) := by show j = k; omega
      have hge : (k : Int) ≤ (j : Int) := by omega
      go_wp2
      go_ret
      exact ⟨ret_str (by rw [HS.out, HJ.out]), hk⟩

/-- What 'byte(n >> (8*i))' comes to. -/
theorem shr_fix (n j : Nat) : (n : Int) / 2 ^ (8 * j) % 256 = ((n / 256 ^ j % 256 : Nat) : Int) := by
  have e : (256 : Nat) ^ j = 2 ^ (8 * j) := by rw [Nat.pow_mul]
  rw [e, Int.natCast_emod, Int.natCast_ediv, Int.natCast_pow]; rfl

set_option maxHeartbeats 2000000 in
set_option maxRecDepth 100000 in
theorem putfix_core (ao : Option Addr) (b off len cap : Nat) (olds : List Value) (n k : Nat) (m : Int) (w : World) (hc : Came w 1 ao b off len cap olds) (hlen : len ≤ 1000000) (hn : n < 18446744073709551616)
    (hm : (0 ≤ m ∧ m ≤ 8 ∧ m ≤ (k : Int) ∧ (k : Int) ≤ m) ∨ (8 < m ∧ 8 ≤ k ∧ k ≤ 8) ∨ (m < 0 ∧ k ≤ 0)) :
    Calls Tryd.prog 12 #[.slice ao len cap, .int .u64 (n : Int), .int .i64 m] w fun e w' => ∃ (r : Nat) (v : Value), e = .returned v ∧ Upon w 5 1 ao b off len cap olds w' v k (cellsOf (fixB n k)) r := by
  obtain ⟨i0, hi, hz0, hz1, hz2⟩ := info_parts info_u8
  have hk8 : k ≤ 8 := by omega
  rcases hm with ⟨h1, h2, h3, h4⟩ | ⟨h1, h3, h4⟩ | ⟨h1, h3⟩
  rotate_left 2
  · obtain rfl : k = 0 := by omega
    go_enter Tryd.func12, Tryd.ntmps12
    go_wp2
    go_loopw [0, 11] (fun v i wr => v = .slice ao len cap ∧ i = .int .i64 0 ∧ wr = w) (fun _ _ _ => 0)
    case atStart => exact ⟨rfl, rfl, rfl⟩
    case round =>
      obtain ⟨rfl, rfl, rfl⟩ := hrel
      go_wp2
      go_ret
      exact ⟨0, _, rfl, Upon.start hc⟩
  all_goals
    go_enter Tryd.func12, Tryd.ntmps12
    go_wp2
    go_loopw [0, 11] (fun v i wr => ∃ j r : Nat, j ≤ k ∧ i = .int .i64 j ∧ Upon w 5 1 ao b off len cap olds wr v j (cellsOf (fixB n j)) r) (fun _ i _ => 8 - (intOf i).toNat)
    case atStart => exact ⟨0, 0, Nat.zero_le _, rfl, Upon.start hc⟩
    case round =>
      obtain ⟨j, r, hj, rfl, hup⟩ := hrel
      by_cases hlt : j < k
      · obtain ⟨x, hx⟩ : ∃ x, x = n / 256 ^ j % 256 := ⟨_, rfl⟩
        have hbyte : (n : Int) / 2 ^ (8 * j) % 256 = (x : Int) := by rw [shr_fix, hx]
        have HX : Hid (x = n / 256 ^ j % 256) := hx
        clear hx
        go_wp2_with (at_builtin; refine wpList_append_upon _ rfl (.tmp 14) (.tmp 20) 22 22 rfl hc i0 (.int .u8 0) 1 Tryd.underlying22 hi hz0 hz1 hz2 rfl rfl (hup.alloc hc _) _ 1 [.int .u8 (x : Int)] rfl (src_one _ _) (by unfold maxLen; omega) (by omega) ?_)
        intro v' w1 hup1
        have R : Upon w 5 1 ao b off len cap olds w1 v' (j + 1) (cellsOf (fixB n (j + 1))) (Upon.next len cap 1 j r 1) := by
          rw [fixB, ← HX.out, cellsOf_append]; exact hup1
        clear hup1 hup hbyte
        go_wp2
        go_roundw
        case rel => exact ⟨j + 1, _, by omega, by go_num, R⟩
        case measure => simp [intOf]; omega
      · have HJ : Hid (j = k) := by show j = k; omega
        have R : Upon w 5 1 ao b off len cap olds wr u0 k (cellsOf (fixB n k)) r := by rw [← HJ.out]; exact hup
        go_wp2
        go_ret
        exact ⟨_, _, rfl, R⟩

theorem putfix_any (ao : Option Addr) (b off len cap : Nat) (olds : List Value) (n : Nat) (m : Int) (w : World) (hc : Came w 1 ao b off len cap olds) (hlen : len ≤ 1000000) (hn : n < 18446744073709551616) :
    Calls Tryd.prog 12 #[.slice ao len cap, .int .u64 (n : Int), .int .i64 m] w fun e w' => ∃ (r : Nat) (v : Value), e = .returned v ∧ Upon w 5 1 ao b off len cap olds w' v (clamp m) (cellsOf (fixB n (clamp m))) r :=
  putfix_core ao b off len cap olds n (clamp m) m w hc hlen hn (by unfold clamp; omega)

/-- What 'uint64(number)<<3 | uint64(form)' comes to. -/
theorem or_tag (a f : Nat) (ha : a ≤ 536870911) (hf : f < 8) : bits .or .u64 ((a : Int) * 8) (f : Int) = ((a * 8 + f : Nat) : Int) := by
  rw [show ((a : Int) * 8) = ((a * 8 : Nat) : Int) from by omega, bits_or_u64_nat _ _ (by omega) (by omega)]
  congr 1
  have : a * 8 = a <<< 3 := by rw [Nat.shiftLeft_eq]
  rw [this, ← Nat.shiftLeft_add_eq_or_of_lt (by omega)]

set_option maxHeartbeats 1000000 in
theorem puttag_any (ao : Option Addr) (b off len cap : Nat) (olds : List Value) (a f : Nat) (w : World) (hc : Came w 1 ao b off len cap olds) (hlen : len ≤ 1000000) (h1 : 1 ≤ a) (h2 : a ≤ 536870911) (hf : f < 8) :
    Calls Tryd.prog 14 #[.slice ao len cap, .int .i64 (a : Int), .int .i64 (f : Int)] w fun e w' => ∃ (S r : Nat) (v : Value), e = .returned v ∧ IsSize (a * 8 + f) S ∧ Upon w 5 1 ao b off len cap olds w' v S (cellsOf (enc (a * 8 + f) S)) r := by
  obtain ⟨t, ht⟩ : ∃ t, t = a * 8 + f := ⟨_, rfl⟩
  have hor : bits .or .u64 ((a : Int) * 8) (f : Int) = (t : Int) := by rw [or_tag a f h2 hf, ht]
  have HT : Hid (t = a * 8 + f) := ht
  have htl : t < 18446744073709551616 := by omega
  rw [← ht]
  clear ht
  go_enter Tryd.func14, Tryd.ntmps14
  go_wp2_with fail
  refine (put_any ao b off len cap olds t _ hc hlen htl).mono ?_
  rintro e w1 ⟨S, r, v, rfl, hS, hup⟩
  go_wp2
  go_ret
  exact ⟨S, r, v, rfl, hS, hup⟩

set_option maxHeartbeats 1000000 in
theorem rtag_any (a f S : Nat) (w : World) (h1 : 1 ≤ a) (h2 : a ≤ 536870911) (hf : f < 8) (hS : IsSize (a * 8 + f) S) :
    Calls Tryd.prog 15 #[.int .i64 (a : Int), .int .i64 (f : Int)] w fun e w' => e = .returned (.string (str (enc (a * 8 + f) S))) ∧ Kept w.heap.size w w' := by
  go_enter Tryd.func15, Tryd.ntmps15
  go_wp2_with fail
  refine (rvar_at _ hS (by omega) (by omega)).mono ?_
  rintro e w1 ⟨rfl, hk⟩
  go_wp2
  go_ret
  exact ⟨rfl, hk⟩
end Go.Proofs.YticgkjcdhmejcaaDoor

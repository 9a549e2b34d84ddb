/- PutVarint: a number's bytes, behind what a list has. -/
import Derived.Test.YticgkjcdhmejcaaNums
import Derived.Test.YticgkjcdhmejcaaMem
namespace Go.Proofs.Yticgkjcdhmejcaa
open Go.RowKit

theorem info_u8 : (Try.prog.info? 5).map (fun i => (i.zero, i.size, i.bytes)) = some (some (.int .u8 0), 1, 1) := by kernel_rfl

/-- The first k bytes of a number, 128 added to each. -/
def pre (n : Nat) : Nat → List Nat
  | 0 => []
  | k + 1 => pre n k ++ [n / 128 ^ k % 128 + 128]
/-- A number's bytes. -/
def enc (n S : Nat) : List Nat := pre n (S - 1) ++ [n / 128 ^ (S - 1)]
theorem pre_length (n k : Nat) : (pre n k).length = k := by induction k with | zero => rfl | succ k ih => simp [pre, ih]

theorem last_lt {n S k : Nat} (h : n < 128 ^ S) (hk : S = k + 1) : n / 128 ^ k < 128 := by
  subst hk
  rw [Nat.div_lt_iff_lt_mul (Nat.pow_pos (by decide)), Nat.mul_comm, ← Nat.pow_succ]; exact h

theorem src_one (w : World) (x : Int) : Src Try.prog 1 23 (.slice (some ⟨w.heap.size, 0, none⟩) 1 1) 1 [.int .u8 x] (w.alloc (.cells #[.int .u8 x] 5)) :=
  Src.ofSlice _ Try.underlying23 ⟨w.heap.size, 0, none⟩ 1 1 [.int .u8 x] rfl (by intro j u hj; match j, hj with | 0, hj => simp at hj; subst hj; simp [Addr.add]) (by intro u hu; simp at hu; subst hu; rfl)

set_option maxHeartbeats 1000000 in
set_option maxRecDepth 100000 in
theorem put_any (ao : Option Addr) (b off len cap : Nat) (olds : List Value) (n : Nat) (w : World) (hc : Came w 1 ao b off len cap olds) (hlen : len ≤ 1000000) (hn : n < 18446744073709551616) :
    Calls Try.prog 7 #[.slice ao len cap, .int .u64 (n : Int)] w fun e w' => ∃ (S r : Nat) (v : Value), e = .returned v ∧ IsSize n S ∧ Upon w 5 1 ao b off len cap olds w' v S (cellsOf (enc n S)) r := by
  obtain ⟨i0, hi, hz0, hz1, hz2⟩ := info_parts info_u8
  go_enter Try.func7, Try.ntmps7
  go_wp2_with fail
  refine (size_any n _ hn).mono ?_
  rintro e w' ⟨S, rfl, hS, rfl⟩
  have hS1 := hS.1
  have hS2 := hS.2.1
  go_wp2_with fail
  go_loopw [0, 1, 8] (fun v q i wr => ∃ k q0 r : Nat, k ≤ S - 1 ∧ i = .int .i64 k ∧ q = .int .u64 q0 ∧ q0 ≤ n ∧ Hid (q0 = n / 128 ^ k) ∧ Upon w' 5 1 ao b off len cap olds wr v k (cellsOf (pre n k)) r) (fun _ _ i _ => S - (intOf i).toNat)
  case atStart => exact ⟨0, n, 0, Nat.zero_le _, rfl, rfl, Nat.le_refl _, by show n = n / 128 ^ 0; simp, Upon.start hc⟩
  case round =>
    obtain ⟨k, q, r, hk, rfl, rfl, hqn, HQ, hup⟩ := hrel
    by_cases hlt : k < S - 1
    · obtain ⟨x, hx⟩ : ∃ x, x = q % 128 + 128 := ⟨_, rfl⟩
      have hbyte : bits .or .u8 ((q : Int) % 256) 128 = (x : Int) := by
        have := or_128 ⟨q % 256, by omega⟩
        simp only at this
        rw [hx]
        have e1 : (((q % 256 : Nat)) : Int) = (q : Int) % 256 := by omega
        rw [e1] at this
        rw [this]; omega
      have HX : Hid (x = q % 128 + 128) := hx
      clear hx
      go_wp2_with (at_builtin; refine wpList_append_upon _ rfl (.tmp 10) (.tmp 14) 23 23 rfl hc i0 (.int .u8 0) 1 Try.underlying23 hi hz0 hz1 hz2 rfl rfl (hup.alloc hc _) _ 1 [.int .u8 (x : Int)] rfl (src_one _ _) (by unfold maxLen; omega) (by omega) ?_)
      intro v' w1 hup1
      have R : Upon w' 5 1 ao b off len cap olds w1 v' (k + 1) (cellsOf (pre n (k + 1))) (Upon.next len cap 1 k r 1) := by
        rw [pre, ← HQ.out, ← HX.out, cellsOf_append]; exact hup1
      have HQ' : Hid (q / 128 = n / 128 ^ (k + 1)) := by
        show q / 128 = n / 128 ^ (k + 1)
        rw [HQ.out, Nat.pow_succ, Nat.div_div_eq_div_mul]
      clear hup1 hup hbyte
      go_wp2
      go_roundw
      case rel => exact ⟨k + 1, q / 128, _, by omega, by go_num, by go_num, by omega, HQ', R⟩
      case measure => simp [intOf]; omega
    · have hkS : k = S - 1 := by omega
      have hq128 : q < 128 := by
        have h1 := hS.2.2.1
        rw [HQ.out]; exact last_lt h1 (by omega)
      have HK : Hid (k = S - 1) := hkS
      clear hkS
      go_wp2_with (at_builtin; refine wpList_append_upon _ rfl (.tmp 19) (.tmp 22) 23 23 rfl hc i0 (.int .u8 0) 1 Try.underlying23 hi hz0 hz1 hz2 rfl rfl (hup.alloc hc _) _ 1 [.int .u8 (q : Int)] rfl (src_one _ _) (by unfold maxLen; omega) (by omega) ?_)
      intro v' w1 hup1
      have R : Upon w' 5 1 ao b off len cap olds w1 v' S (cellsOf (enc n S)) (Upon.next len cap 1 k r 1) := by
        have e1 : k + 1 = S := by omega
        rw [enc, ← HK.out, ← HQ.out, cellsOf_append, ← e1]
        exact hup1
      clear hup1 hup
      go_wp2
      go_ret
      exact ⟨S, _, v', rfl, hS, R⟩
end Go.Proofs.Yticgkjcdhmejcaa

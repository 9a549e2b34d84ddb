/- The document's own answer: GetVarint, Zig, Zag on strings and numbers. -/
import Derived.Test.YticgkjcdhmejcaaDoorStr
import Derived.Outline
namespace Go.Proofs.YticgkjcdhmejcaaDoor
open Go.RowKit
set_option linter.unusedVariables false

set_option maxHeartbeats 400000 in
theorem rzig_any (z : Int) (w : World) (h0 : -9223372036854775808 ≤ z) (h1 : z ≤ 9223372036854775807) :
    Calls Tryd.prog 17 #[.int .i64 z] w fun e w' => e = .returned (.int .u64 (zig z)) ∧ w' = w := by
  by_cases hz : 0 ≤ z
  · go_enter Tryd.func17, Tryd.ntmps17
    go_wp2
    go_ret
    exact ⟨ret_int (by unfold zig; rw [if_pos hz]; omega), rfl⟩
  · go_enter Tryd.func17, Tryd.ntmps17
    go_wp2
    go_ret
    exact ⟨ret_int (by unfold zig; rw [if_neg (by omega)]; omega), rfl⟩

set_option maxHeartbeats 400000 in
theorem rzag_any (n : Int) (w : World) (h0 : 0 ≤ n) (h1 : n ≤ 18446744073709551615) :
    Calls Tryd.prog 19 #[.int .u64 n] w fun e w' => e = .returned (.int .i64 (zag n)) ∧ w' = w := by
  by_cases hz : n % 2 = 0
  · go_enter Tryd.func19, Tryd.ntmps19
    go_wp2
    go_ret
    exact ⟨ret_int (by unfold zag; rw [if_pos hz]), rfl⟩
  · go_enter Tryd.func19, Tryd.ntmps19
    go_wp2
    go_ret
    exact ⟨ret_int (by unfold zag; rw [if_neg hz]), rfl⟩

theorem add_acc {k acc x : Nat} (hacc : acc < 128 ^ k) (hk : k < 9) : IntKind.u64.wrap ((acc : Int) + IntKind.u64.wrap ((x : Int) % 128 * 2 ^ (7 * k))) = ((acc + 128 ^ k * (x % 128) : Nat) : Int) := by
  have h1 := acc_lt (b := x) hacc
  have h2 : 128 ^ (k + 1) ≤ 128 ^ 9 := Nat.pow_le_pow_right (by decide) (by omega)
  have e7 : (128 : Nat) ^ k = 2 ^ (7 * k) := by rw [Nat.pow_mul]
  have e2 : ((x : Int) % 128 * 2 ^ (7 * k)) = ((128 ^ k * (x % 128) : Nat) : Int) := by
    rw [Int.natCast_mul, e7, Int.natCast_pow, Int.mul_comm, Int.natCast_emod]; rfl
  rw [e2, IntKind.wrap_u64, IntKind.wrap_u64]
  omega
theorem add_acc9 {acc x : Nat} (hacc : acc < 128 ^ 9) (hx : x ≤ 1) : IntKind.u64.wrap ((acc : Int) + (x : Int) % 128 * 9223372036854775808) = ((acc + 128 ^ 9 * (x % 128) : Nat) : Int) := by
  rw [IntKind.wrap_u64]; omega

/-- What the document's GetVarint returns. -/
def rgRes : Option (Nat × Nat) → Ending
  | some p => .returned (.tuple #[.int .u64 (p.1 : Int), .int .i64 (p.2 : Int), .int .i64 0])
  | none => .returned (.tuple #[.int .u64 0, .int .i64 0, .int .i64 3])
theorem rg_some {o : Option (Nat × Nat)} {p : Nat × Nat} {a c : Int} (h : o = some p) (h1 : a = (p.1 : Int)) (h2 : c = (p.2 : Int)) :
    Ending.returned (.tuple #[.int .u64 a, .int .i64 c, .int .i64 0]) = rgRes o := by subst h h1 h2; rfl
theorem rg_none {o : Option (Nat × Nat)} (h : o = none) : Ending.returned (.tuple #[.int .u64 0, .int .i64 0, .int .i64 3]) = rgRes o := by subst h; rfl

set_option maxHeartbeats 1000000 in
set_option maxRecDepth 100000 in
theorem rget_any (s : ByteArray) (bs : List Nat) (w : World) (hs : Spells s bs) (hl : bs.length ≤ 1000000) :
    Calls Tryd.prog 6 #[.string s] w fun e w' => e = rgRes (getv bs 0) ∧ w' = w := by
  have hsz := hs.size
  have HSZ : Hid (s.size = bs.length) := hsz
  have hl' : s.size ≤ 1000000 := by omega
  clear hsz
  go_enter Tryd.func6, Tryd.ntmps6
  go_wp2
  go_loop [5, 6] (fun n i => ∃ k acc : Nat, k ≤ s.size ∧ k ≤ 9 ∧ i = .int .i64 k ∧ n = .int .u64 acc ∧ Hid (acc < 128 ^ k) ∧
      Hid (getv bs 0 = (getv (bs.drop k) k).map fun p => (acc + 128 ^ k * p.1, k + p.2))) (fun _ i => 10 - (intOf i).toNat)
  case atStart => exact ⟨0, 0, Nat.zero_le _, by omega, rfl, rfl, by show 0 < 1; decide, by
    show getv bs 0 = _
    simp⟩
  case round =>
    obtain ⟨k, acc, hk, hk9, rfl, rfl, hacc, hid⟩ := hrel
    by_cases hlt : k < s.size
    · obtain ⟨x, hx⟩ : ∃ x, x = bs.getD k 0 := ⟨_, rfl⟩
      have hget : (s[k]'hlt).toNat = x := by rw [hs.get k hlt, hx]
      have hltb : k < bs.length := by rw [← HSZ.out]; exact hlt
      have hx256 : x < 256 := by
        rw [hx]; simp only [List.getD_eq_getElem?_getD, List.getElem?_eq_getElem hltb, Option.getD_some]; exact hs.lt _ (List.getElem_mem hltb)
      have HX : Hid (x = bs.getD k 0) := hx
      clear hx hs
      by_cases h9 : k = 9
      · subst h9
        by_cases hx1 : x ≤ 1
        · go_wp2
          go_ret3
          refine ⟨rg_some (getv_hit hltb (by rw [← HX.out]; omega) (by rw [← HX.out]; omega) hid.out) ?_ rfl, rfl⟩
          rw [← HX.out]
          exact add_acc9 hacc.out hx1
        · go_wp2
          go_ret3
          exact ⟨rg_none (getv_bad hltb rfl (by rw [← HX.out]; omega) hid.out), rfl⟩
      · have hk8 : k < 9 := by omega
        go_wp2
        · go_ret3
          have h128 : (x : Int) < 128 := by assumption
          refine ⟨rg_some (getv_hit hltb (by rw [← HX.out]; omega) (by omega) hid.out) ?_ (by simp), rfl⟩
          rw [← HX.out]
          exact add_acc hacc.out hk8
        · have h128 : (128 : Int) ≤ (x : Int) := by assumption
          go_round
          case rel =>
            refine ⟨k + 1, acc + 128 ^ k * (x % 128), by omega, by omega, by go_num, ?_, ?_, ?_⟩
            · rw [add_acc hacc.out hk8]
            · exact acc_lt hacc.out
            · have := getv_more hltb (by rw [← HX.out]; omega) (by omega) hid.out
              rw [← HX.out] at this
              exact this
          case measure => simp [intOf]; omega
    · have hkl : k = bs.length := by have := HSZ.out; omega
      have HKL : Hid (k = bs.length) := hkl
      have hge : (s.size : Int) ≤ (k : Int) := by omega
      clear hkl hs
      go_wp2
      go_ret3
      exact ⟨rg_none (getv_stop HKL.out hid.out), rfl⟩
end Go.Proofs.YticgkjcdhmejcaaDoor

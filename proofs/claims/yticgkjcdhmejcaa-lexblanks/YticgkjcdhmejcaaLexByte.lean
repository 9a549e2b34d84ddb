/- What a byte is: letter, digit, blank; IndexByte, HasPrefix. -/
import Derived.Test.YticgkjcdhmejcaaLexPlain
import Derived.Test.YticgkjcdhmejcaaMem
namespace Go.Proofs.Yticgkjcdhmejcaa
open Go.RowKit
set_option linter.unusedVariables false
set_option linter.unusedSimpArgs false

theorem ret_bool {a b : Bool} (h : a = b) : Ending.returned (.bool a) = .returned (.bool b) := by rw [h]

/-- The function f of a byte tells p, and leaves all as it was. -/
structure Tells (f : FuncId) (p : Nat → Bool) : Prop where
  enters : ∀ (args : Array Value) (w : World), (callFunc f args).run Try.prog w = .ok (.enter f args) w
  call : ∀ (c : Nat) (w : World), c < 256 → Calls Try.prog f #[.int .u8 (c : Int)] w fun e w' => e = .returned (.bool (p c)) ∧ w' = w

theorem digit_tells : Tells 29 isDig := by
  refine ⟨fun _ _ => by kernel_rfl, ?_⟩
  intro c w hc
  go_enter Try.func29, Try.ntmps29
  go_wp2
  all_goals
    go_ret
    exact ⟨ret_bool (by rw [Bool.eq_iff_iff]; simp [isDig]; omega), rfl⟩
theorem gap_tells : Tells 30 isGap := by
  refine ⟨fun _ _ => by kernel_rfl, ?_⟩
  intro c w hc
  go_enter Try.func30, Try.ntmps30
  go_wp2
  all_goals
    go_ret
    exact ⟨ret_bool (by rw [Bool.eq_iff_iff]; simp [isGap]; omega), rfl⟩
theorem line_tells : Tells 32 inLine := by
  refine ⟨fun _ _ => by kernel_rfl, ?_⟩
  intro c w hc
  go_enter Try.func32, Try.ntmps32
  go_wp2
  all_goals
    go_ret
    exact ⟨ret_bool (by rw [Bool.eq_iff_iff]; simp [inLine]; omega), rfl⟩
theorem text_tells : Tells 42 inText := by
  refine ⟨fun _ _ => by kernel_rfl, ?_⟩
  intro c w hc
  go_enter Try.func42, Try.ntmps42
  go_wp2
  all_goals
    go_ret
    exact ⟨ret_bool (by rw [Bool.eq_iff_iff]; simp [inText]; omega), rfl⟩
theorem letter_tells : Tells 33 isLet := by
  refine ⟨fun _ _ => by kernel_rfl, ?_⟩
  intro c w hc
  go_enter Try.func33, Try.ntmps33
  go_wp2
  all_goals
    go_ret
    exact ⟨ret_bool (by rw [Bool.eq_iff_iff]; simp [isLet]; omega), rfl⟩
end Go.Proofs.Yticgkjcdhmejcaa

/- What a byte is: letter, digit, blank; IndexByte, HasPrefix. -/
import Derived.Test.YticgkjcdhmejcaaDoorLexPlain
import Derived.Test.YticgkjcdhmejcaaDoorMem
namespace Go.Proofs.YticgkjcdhmejcaaDoor
open Go.RowKit
set_option linter.unusedVariables false
set_option linter.unusedSimpArgs false

theorem ret_bool {a b : Bool} (h : a = b) : Ending.returned (.bool a) = .returned (.bool b) := by rw [h]

/-- The function f of a byte tells p, and leaves all as it was. -/
structure Tells (f : FuncId) (p : Nat → Bool) : Prop where
  enters : ∀ (args : Array Value) (w : World), (callFunc f args).run Tryd.prog w = .ok (.enter f args) w
  call : ∀ (c : Nat) (w : World), c < 256 → Calls Tryd.prog f #[.int .u8 (c : Int)] w fun e w' => e = .returned (.bool (p c)) ∧ w' = w

theorem digit_tells : Tells 40 isDig := by
  refine ⟨fun _ _ => by kernel_rfl, ?_⟩
  intro c w hc
  go_enter Tryd.func40, Tryd.ntmps40
  go_wp2
  all_goals
    go_ret
    exact ⟨ret_bool (by rw [Bool.eq_iff_iff]; simp [isDig]; omega), rfl⟩
theorem gap_tells : Tells 42 isGap := by
  refine ⟨fun _ _ => by kernel_rfl, ?_⟩
  intro c w hc
  go_enter Tryd.func42, Tryd.ntmps42
  go_wp2
  all_goals
    go_ret
    exact ⟨ret_bool (by rw [Bool.eq_iff_iff]; simp [isGap]; omega), rfl⟩
theorem line_tells : Tells 44 inLine := by
  refine ⟨fun _ _ => by kernel_rfl, ?_⟩
  intro c w hc
  go_enter Tryd.func44, Tryd.ntmps44
  go_wp2
  all_goals
    go_ret
    exact ⟨ret_bool (by rw [Bool.eq_iff_iff]; simp [inLine]; omega), rfl⟩
theorem text_tells : Tells 53 inText := by
  refine ⟨fun _ _ => by kernel_rfl, ?_⟩
  intro c w hc
  go_enter Tryd.func53, Tryd.ntmps53
  go_wp2
  all_goals
    go_ret
    exact ⟨ret_bool (by rw [Bool.eq_iff_iff]; simp [inText]; omega), rfl⟩
theorem letter_tells : Tells 45 isLet := by
  refine ⟨fun _ _ => by kernel_rfl, ?_⟩
  intro c w hc
  go_enter Tryd.func45, Tryd.ntmps45
  go_wp2
  all_goals
    go_ret
    exact ⟨ret_bool (by rw [Bool.eq_iff_iff]; simp [isLet]; omega), rfl⟩
end Go.Proofs.YticgkjcdhmejcaaDoor

/- The statement's own small fact: three hundred. -/
import Derived.Test.YticgkjcdhmejcaaOr
namespace Go.Proofs.Yticgkjcdhmejcaa
open Go.RowKit

theorem size300 : IsSize 300 2 := ⟨by decide, by decide, by decide, fun _ => by decide⟩
theorem enc300 : enc 300 2 = [172, 2] := by decide
theorem gv300 : gvRes (getv (enc 300 2) 0) = .returned (.tuple #[.int .u64 300, .int .i64 2, .nilIface]) := by
  rw [enc300]; rfl
theorem zig1 : zig (-1) = 1 := by decide

set_option maxHeartbeats 1000000 in
set_option maxRecDepth 100000 in
theorem fact_any (w : World) : Calls Try.prog 6 #[] w fun e w' => e = .returned (.bool true) ∧ Kept w.heap.size w w' := by
  go_enter Try.func6, Try.ntmps6
  go_wp2_with fail
  refine (put_nil 300 300 _ rfl (by decide)).mono ?_
  rintro e w1 ⟨S, g, o, cap, rfl, hS, hr, hg, hg1, hcap, hk⟩
  obtain rfl : S = 2 := isSize_unique hS size300
  have c0 : w1.cell? ⟨g, o, none⟩ = some (.int .u8 172) := by have := hr.cell 0 (by rw [enc300]; decide); rw [enc300] at this; exact this
  have c1 : w1.cell? ⟨g, o + 1, none⟩ = some (.int .u8 2) := by have := hr.cell 1 (by rw [enc300]; decide); rw [enc300] at this; exact this
  clear hS
  go_wp2_with fail
  refine (get_is hr gv300).mono ?_
  rintro e w2 ⟨rfl, rfl⟩
  go_wp2_with fail
  refine (zig_any (-1) _ (by decide) (by decide)).mono ?_
  rintro e w3 ⟨rfl, rfl⟩
  rw [zig1]
  go_wp2
  go_ret
  exact ⟨rfl, hk⟩
end Go.Proofs.Yticgkjcdhmejcaa

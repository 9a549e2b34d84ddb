/- The walk of WireNumbers, at arguments as they come in. -/
import Derived.Test.YticgkjcdhmejcaaDoorArg
import Derived.Test.YticgkjcdhmejcaaDoorNumsWalk
namespace Go.Proofs.YticgkjcdhmejcaaDoor
open Go.RowKit

set_option maxHeartbeats 400000 in
theorem nums_big (a0 : Option Addr) (len0 cap0 : Nat) (a1 a2 : Int) (w : World) (hlen : 100 < len0) :
    Calls Tryd.prog 3 #[.slice a0 len0 cap0, .int .u64 a1, .int .i64 a2] w fun e w' => e = .returned (.bool true) ∧ Kept w.heap.size w w' := by
  have h : (100 : Int) < (len0 : Int) := by omega
  go_enter Tryd.func3, Tryd.ntmps3
  go_wp2
  go_ret
  exact ⟨rfl, Kept.refl _ _⟩

theorem wireNumbers_row (a0 : Option Addr) (len0 cap0 : Nat) (z0 : List Int) (a1 a2 : Int) (w : World) (w0 : IsRow .u8 w a0 len0 cap0 z0) (w1 : (Lit.int .u64 a1).wf = true) (_ : (Lit.int .i64 a2).wf = true) (hL : Laid w) :
    Calls Tryd.prog 3 #[.slice a0 len0 cap0, .int .u64 a1, .int .i64 a2] w fun e w' => e = .returned (.bool true) ∧ Kept w.heap.size w w' := by
  by_cases h : 100 < len0
  · exact nums_big a0 len0 cap0 a1 a2 w h
  · obtain ⟨h0, h1⟩ := bounds_u64 w1
    obtain ⟨n, rfl⟩ := Int.eq_ofNat_of_zero_le h0
    obtain ⟨bs, rfl, hb⟩ := readsOr_of_row w0
    exact nums_small a0 cap0 bs n a2 w hL hb (by omega) (by omega)
end Go.Proofs.YticgkjcdhmejcaaDoor

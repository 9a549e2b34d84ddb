/- The walk of WirePieces, at an argument as it comes in. -/
import Derived.Test.YticgkjcdhmejcaaDoorArg
import Derived.Test.YticgkjcdhmejcaaDoorPcsWalk
namespace Go.Proofs.YticgkjcdhmejcaaDoor
open Go.RowKit

set_option maxHeartbeats 400000 in
theorem pcs_big (a0 : Option Addr) (len0 cap0 : Nat) (w : World) (hlen : 500 < len0) :
    Calls Tryd.prog 4 #[.slice a0 len0 cap0] w fun e w' => e = .returned (.bool true) ∧ Kept w.heap.size w w' := by
  have h : (500 : Int) < (len0 : Int) := by omega
  go_enter Tryd.func4, Tryd.ntmps4
  go_wp2
  go_ret
  exact ⟨rfl, Kept.refl _ _⟩

theorem wirePieces_row (a0 : Option Addr) (len0 cap0 : Nat) (z0 : List Int) (w : World) (w0 : IsRow .u8 w a0 len0 cap0 z0) (hL : Laid w) :
    Calls Tryd.prog 4 #[.slice a0 len0 cap0] w fun e w' => e = .returned (.bool true) ∧ Kept w.heap.size w w' := by
  by_cases h : 500 < len0
  · exact pcs_big a0 len0 cap0 w h
  · obtain ⟨bs, rfl, hb⟩ := readsOr_of_row w0
    exact pcs_small a0 cap0 bs w hb (by omega) hL
end Go.Proofs.YticgkjcdhmejcaaDoor

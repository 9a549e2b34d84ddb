/- The walk of WireJoins, at arguments as they come in. -/
import Derived.Test.YticgkjcdhmejcaaJoinsWalk
import Derived.Test.YticgkjcdhmejcaaArg
namespace Go.Proofs.Yticgkjcdhmejcaa
open Go.RowKit

set_option maxHeartbeats 400000 in
theorem joins_big (a1 a2 : Option Addr) (l1 c1 l2 c2 : Nat) (w : World) (h1 : l1 ≤ 140737488351232) (h2 : l2 ≤ 140737488351232) (hlen : 500 < l1 + l2) :
    Calls Try.prog 4 #[.slice a1 l1 c1, .slice a2 l2 c2] w fun e w' => e = .returned (.bool true) ∧ Kept w.heap.size w w' := by
  have h : (500 : Int) < (l1 : Int) + (l2 : Int) := by omega
  go_enter Try.func4, Try.ntmps4
  go_wp2
  go_ret
  exact ⟨rfl, Kept.refl _ _⟩

theorem wireJoins_row (a0 : Option Addr) (len0 cap0 : Nat) (z0 : List Int) (a1 : Option Addr) (len1 cap1 : Nat) (z1 : List Int) (w : World) (w0 : IsRow .u8 w a0 len0 cap0 z0) (w1 : IsRow .u8 w a1 len1 cap1 z1)
    (s0 : len0 ≤ 140737488351232) (s1 : len1 ≤ 140737488351232) :
    Calls Try.prog 4 #[.slice a0 len0 cap0, .slice a1 len1 cap1] w fun e w' => e = .returned (.bool true) ∧ Kept w.heap.size w w' := by
  by_cases h : 500 < len0 + len1
  · exact joins_big a0 a1 len0 cap0 len1 cap1 w s0 s1 h
  · obtain ⟨xs, rfl, hx⟩ := readsOr_of_row w0
    obtain ⟨ys, rfl, hy⟩ := readsOr_of_row w1
    exact joins_small a0 a1 cap0 cap1 xs ys w hx hy (by omega)
end Go.Proofs.Yticgkjcdhmejcaa

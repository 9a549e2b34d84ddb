/- The walk of WireBack, at arguments as they come in. -/
import Derived.Test.YticgkjcdhmejcaaArg
import Derived.Test.YticgkjcdhmejcaaWireBackWalk
namespace Go.Proofs.Yticgkjcdhmejcaa
open Go.RowKit

theorem wireBack_row (a0 : Int) (a1 : Option Addr) (len1 cap1 : Nat) (z1 : List Int) (a2 : Int) (w : World) (w0 : (Lit.int .u64 a0).wf = true) (w1 : IsRow .u8 w a1 len1 cap1 z1) (_ : (Lit.int .i64 a2).wf = true) :
    Calls Try.prog 3 #[.int .u64 a0, .slice a1 len1 cap1, .int .i64 a2] w fun e w' => e = .returned (.bool true) ∧ Kept w.heap.size w w' := by
  by_cases h : 200 < len1
  · exact wireBack_big a0 a1 len1 cap1 a2 w h
  · obtain ⟨h0, h1⟩ := bounds_u64 w0
    obtain ⟨n, rfl⟩ := Int.eq_ofNat_of_zero_le h0
    obtain ⟨bs, rfl, hb⟩ := readsOr_of_row w1
    exact wireBack_small n a1 cap1 bs a2 w (by omega) hb (by omega)
end Go.Proofs.Yticgkjcdhmejcaa

/- Bytes as strings. -/
import Derived.Test.YticgkjcdhmejcaaDoorOr
import Derived.Test.YticgkjcdhmejcaaDoorSp
namespace Go.Proofs.YticgkjcdhmejcaaDoor
open Go.RowKit

theorem conv_or {w : World} {v : Value} {bs : List Nat} (h : ReadsOr w v bs) : (convert 22 9 v).run Tryd.prog w = .ok (.string (str bs)) w := by
  rcases h with ⟨rfl, a, cap, rfl⟩ | ⟨b, off, cap, h, h0, hb, h1⟩
  · cases a with
    | none => exact run_convert_bytes_nil w 22 5 Tryd.underlying22 Tryd.underlying5 0 cap 9 Tryd.underlying9
    | some x =>
      rw [run_convert_bytes_string w 22 9 5 _ 0 cap Tryd.underlying22 Tryd.underlying5 Tryd.underlying9, run_bytesToString w x 0 cap [] (by simp [loadCells]; rfl)]
      rfl
  · rw [h.shape]
    exact run_convert_bytes_arg w 22 5 Tryd.underlying22 Tryd.underlying5 b off bs.length cap _ (by simp) (fun i hi => by rw [h.cell i hi]; simp [hi]) 9 Tryd.underlying9

end Go.Proofs.YticgkjcdhmejcaaDoor

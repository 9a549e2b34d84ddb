/- Bytes as strings. -/
import Derived.Test.YticgkjcdhmejcaaOr
import Derived.Test.YticgkjcdhmejcaaSp
namespace Go.Proofs.Yticgkjcdhmejcaa
open Go.RowKit

theorem conv_or {w : World} {v : Value} {bs : List Nat} (h : ReadsOr w v bs) : (convert 23 9 v).run Try.prog w = .ok (.string (str bs)) w := by
  rcases h with ⟨rfl, a, cap, rfl⟩ | ⟨b, off, cap, h, h0, hb, h1⟩
  · cases a with
    | none => exact run_convert_bytes_nil w 23 5 Try.underlying23 Try.underlying5 0 cap 9 Try.underlying9
    | some x =>
      rw [run_convert_bytes_string w 23 9 5 _ 0 cap Try.underlying23 Try.underlying5 Try.underlying9, run_bytesToString w x 0 cap [] (by simp [loadCells]; rfl)]
      rfl
  · rw [h.shape]
    exact run_convert_bytes_arg w 23 5 Try.underlying23 Try.underlying5 b off bs.length cap _ (by simp) (fun i hi => by rw [h.cell i hi]; simp [hi]) 9 Try.underlying9

end Go.Proofs.Yticgkjcdhmejcaa

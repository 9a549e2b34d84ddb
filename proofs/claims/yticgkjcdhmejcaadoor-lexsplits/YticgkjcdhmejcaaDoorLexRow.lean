/- The walk of LexSplits, at an argument as it comes in. -/
import Derived.Test.YticgkjcdhmejcaaDoorLexWalk
namespace Go.Proofs.YticgkjcdhmejcaaDoor
open Go.RowKit
set_option linter.unusedVariables false

set_option maxHeartbeats 400000 in
theorem lex_big (s : ByteArray) (w : World) (hlen : 1500 < s.size) (hm : s.size ≤ maxLen) :
    Calls Tryd.prog 5 #[.string s] w fun e w' => e = .returned (.bool true) ∧ Kept w.heap.size w w' := by
  have h : (1500 : Int) < (s.size : Int) := by omega
  unfold maxLen at hm
  go_enter Tryd.func5, Tryd.ntmps5
  go_wp2
  go_ret
  exact ⟨rfl, Kept.refl _ _⟩

/-- Every string has its bytes. -/
theorem spells_self (s : ByteArray) : Spells s (s.data.toList.map UInt8.toNat) := by
  refine ⟨(by rw [List.length_map, Array.length_toList]; rfl), fun k h => ?_, fun x hx => ?_⟩
  · have hk : k < s.data.size := h
    rw [List.getD_eq_getElem?_getD, List.getElem?_map, Array.getElem?_toList, Array.getElem?_eq_getElem hk, ByteArray.getElem_eq_getElem_data]; rfl
  · obtain ⟨b, _, rfl⟩ := List.mem_map.1 hx
    exact b.toNat_lt

theorem lexSplits_row (s : ByteArray) (w0 : s.size ≤ maxLen) (w : World) (hL : Laid w) :
    Calls Tryd.prog 5 #[.string s] w fun e w' => e = .returned (.bool true) ∧ Kept w.heap.size w w' := by
  by_cases h : 1500 < s.size
  · exact lex_big s w h w0
  · exact lex_small s _ w (spells_self s) (by omega) hL
end Go.Proofs.YticgkjcdhmejcaaDoor

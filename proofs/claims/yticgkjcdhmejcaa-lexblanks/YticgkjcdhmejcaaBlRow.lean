/- The walk of LexBlanks, at arguments as they come in. -/
import Derived.Test.YticgkjcdhmejcaaBlWalk
import Derived.Test.YticgkjcdhmejcaaArg
namespace Go.Proofs.Yticgkjcdhmejcaa
open Go.RowKit
set_option linter.unusedVariables false

set_option maxHeartbeats 400000 in
theorem blanks_big (s : ByteArray) (a : Option Addr) (n c : Nat) (w : World) (h0 : s.size ≤ maxLen) (hlen : 1000 < s.size) :
    Calls Try.prog 5 #[.string s, .slice a n c] w fun e w' => e = .returned (.bool true) ∧ Kept w.heap.size w w' := by
  have h : (1000 : Int) < (s.size : Int) := by omega
  unfold maxLen at h0
  go_enter Try.func5, Try.ntmps5
  go_wp2
  go_ret
  exact ⟨rfl, Kept.refl _ _⟩
set_option maxHeartbeats 400000 in
theorem blanks_many (s : ByteArray) (a : Option Addr) (n c : Nat) (w : World) (hlen : s.size ≤ 1000) (hn : 100 < n) :
    Calls Try.prog 5 #[.string s, .slice a n c] w fun e w' => e = .returned (.bool true) ∧ Kept w.heap.size w w' := by
  have h : (s.size : Int) ≤ 1000 := by omega
  have h2 : (100 : Int) < (n : Int) := by omega
  go_enter Try.func5, Try.ntmps5
  go_wp2
  go_ret
  exact ⟨rfl, Kept.refl _ _⟩

theorem howRow_of_row {w : World} {a : Option Addr} {len cap : Nat} {zs : List Int} (h : IsRow .i64 w a len cap zs) : HowRow w a len cap := by
  rcases h with ⟨rfl, rfl, rfl, rfl⟩ | ⟨x, rfl, hl, hm, hz, hc, hw⟩
  · exact .inl rfl
  · rcases Nat.eq_zero_or_pos len with h0 | h0
    · exact .inl h0
    · obtain ⟨b, off, spot⟩ := x
      have hc0 := hc 0 (by omega)
      have hs : spot = none := by simpa [Addr.add] using World.cell?_spot hc0
      subst hs
      have hcell : ∀ j, j < len → w.cell? ⟨b, off + j, none⟩ = some (.int .i64 (zs.getD j 0)) := fun j hj => by
        have := hc j (by omega)
        rw [Addr.add_lit] at this
        exact this
      refine .inr ⟨b, off, rfl, World.block_lt_of_cell? _ _ (hcell 0 h0), hl, fun j hj => ⟨_, hcell j hj, ?_⟩⟩
      have hj' : j < zs.length := by omega
      have e1 : zs.getD j 0 = zs[j] := by simp [hj']
      rw [e1]
      exact bounds_i64 (hw _ (List.getElem_mem hj'))

/-- Every string has its bytes. -/
theorem spells_self (s : ByteArray) : Spells s (s.data.toList.map UInt8.toNat) := by
  refine ⟨(by rw [List.length_map, Array.length_toList]; rfl), fun k h => ?_, fun x hx => ?_⟩
  · have hk : k < s.data.size := h
    rw [List.getD_eq_getElem?_getD, List.getElem?_map, Array.getElem?_toList, Array.getElem?_eq_getElem hk, ByteArray.getElem_eq_getElem_data]; rfl
  · obtain ⟨b, _, rfl⟩ := List.mem_map.1 hx
    exact b.toNat_lt

theorem lexBlanks_row (a0 : ByteArray) (a1 : Option Addr) (len1 cap1 : Nat) (z1 : List Int) (w : World) (w0 : a0.size ≤ maxLen) (w1 : IsRow .i64 w a1 len1 cap1 z1) :
    Calls Try.prog 5 #[.string a0, .slice a1 len1 cap1] w fun e w' => e = .returned (.bool true) ∧ Kept w.heap.size w w' := by
  by_cases h : 1000 < a0.size
  · exact blanks_big a0 a1 len1 cap1 w w0 h
  · by_cases h2 : 100 < len1
    · exact blanks_many a0 a1 len1 cap1 w (by omega) h2
    · exact blanks_small a0 _ a1 len1 cap1 w (spells_self a0) (by omega) (by omega) (howRow_of_row w1)
end Go.Proofs.Yticgkjcdhmejcaa

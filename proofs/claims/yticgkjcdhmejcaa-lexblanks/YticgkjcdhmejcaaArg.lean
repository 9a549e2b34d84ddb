/- A slice of bytes that came in, as a list of bytes. -/
import Derived.Test.YticgkjcdhmejcaaOr
import Derived.OpenShut
namespace Go.Proofs.Yticgkjcdhmejcaa
open Go.RowKit

/-- What is known of a slice of integers that came in. -/
def IsRow (k : IntKind) (w : World) (a : Option Addr) (len cap : Nat) (zs : List Int) : Prop :=
  (a = none ∧ len = 0 ∧ cap = 0 ∧ zs = []) ∨
  ∃ x, a = some x ∧ len ≤ cap ∧ cap ≤ maxLen ∧ zs.length = cap ∧ (∀ i, i < zs.length → w.cell? (x.add i) = some (.int k (zs.getD i 0))) ∧ ∀ n ∈ zs, (Lit.int k n).wf = true

theorem readsOr_of_row {w : World} {a : Option Addr} {len cap : Nat} {zs : List Int} (h : IsRow .u8 w a len cap zs) : ∃ bs : List Nat, bs.length = len ∧ ReadsOr w (.slice a bs.length cap) bs := by
  rcases h with ⟨rfl, rfl, rfl, rfl⟩ | ⟨x, rfl, hl, hm, hz, hc, hw⟩
  · exact ⟨[], rfl, .inl ⟨rfl, _, _, rfl⟩⟩
  · rcases Nat.eq_zero_or_pos len with h0 | h0
    · subst h0
      exact ⟨[], rfl, .inl ⟨rfl, _, _, rfl⟩⟩
    · obtain ⟨b, off, spot⟩ := x
      have hc0 := hc 0 (by omega)
      have hs : spot = none := by simpa [Addr.add] using World.cell?_spot hc0
      subst hs
      have hlen : ((zs.take len).map Int.toNat).length = len := by simp; omega
      have hbd : ∀ z ∈ zs, 0 ≤ z ∧ z ≤ 255 := fun z hz' => bounds_u8 (hw z hz')
      have hcell : ∀ j, j < len → w.cell? ⟨b, off + j, none⟩ = some (.int .u8 ((((zs.take len).map Int.toNat).getD j 0 : Nat) : Int)) := fun j hj => by
        have := hc j (by omega)
        rw [Addr.add_lit] at this
        rw [this]
        have hj' : j < zs.length := by omega
        have e1 : zs.getD j 0 = zs[j] := by simp [hj']
        have e2 : ((zs.take len).map Int.toNat).getD j 0 = (zs[j]).toNat := by simp [hj, hj']
        have := hbd zs[j] (List.getElem_mem hj')
        rw [e1, e2]
        congr 2; omega
      refine ⟨(zs.take len).map Int.toNat, hlen, .inr ⟨b, off, cap, ⟨rfl, ?_, by omega, ?_⟩, by omega, World.block_lt_of_cell? _ _ (hcell 0 h0), by omega, hm⟩⟩
      · intro y hy
        obtain ⟨z, hz1, rfl⟩ := List.mem_map.1 hy
        have := hbd z (List.mem_of_mem_take hz1)
        omega
      · intro j hj; exact hcell j (by omega)
end Go.Proofs.Yticgkjcdhmejcaa

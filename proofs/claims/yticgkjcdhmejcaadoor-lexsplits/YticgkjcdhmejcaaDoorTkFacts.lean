/- A token's cells. -/
import Derived.Test.YticgkjcdhmejcaaDoorLexSplit
namespace Go.Proofs.YticgkjcdhmejcaaDoor
open Go.RowKit
set_option linter.unusedVariables false

theorem tflat_get (l : List Tk) (k : Nat) (hk : k < l.length) (j : Nat) (hj : j < 3) : (tflat l)[k * 3 + j]? = (tkCells l[k])[j]? := by
  induction l generalizing k with
  | nil => simp at hk
  | cons q l ih =>
    cases k with
    | zero =>
      show (tkCells q ++ tflat l)[0 * 3 + j]? = _
      rw [Nat.zero_mul, Nat.zero_add, List.getElem?_append_left (by simpa [tkCells] using hj)]; rfl
    | succ k =>
      have := ih k (by simpa using hk)
      show (tkCells q ++ tflat l)[(k + 1) * 3 + j]? = _
      rw [List.getElem?_append_right (by simp [tkCells]; omega), show (k + 1) * 3 + j - (tkCells q).length = k * 3 + j from by simp [tkCells]; omega, this]; rfl
theorem t_facts {w wr : World} {ao : Option Addr} {b off cap : Nat} {ps : List Tk} (h : Came w 3 ao b off ps.length cap (tflat ps)) (hk : Kept w.heap.size w wr) {k : Nat} (hkl : k < ps.length) {t : Tk} (hq : ps[k] = t) :
    wr.cell? ⟨b, off + k * 3, none⟩ = some (.int .i64 (t.kind : Int)) ∧ wr.cell? ⟨b, off + k * 3 + 1, none⟩ = some (.string (str t.text)) ∧ wr.cell? ⟨b, off + k * 3 + 2, none⟩ = some (.int .i64 (t.place : Int)) := by
  have hb : b < w.heap.size := h.lt (by have := h.le; omega)
  have f : ∀ j, j < 3 → wr.cell? ⟨b, off + k * 3 + j, none⟩ = (tkCells t)[j]? := fun j hj => by
    have e := tflat_get ps k hkl j hj
    rw [hq] at e
    have hx : (tkCells t).length = 3 := rfl
    rw [List.getElem?_eq_getElem (l := tkCells t) (by omega)] at e ⊢
    rw [Nat.add_assoc, hk.cell (p := ⟨b, off + (k * 3 + j), none⟩) hb]
    exact h.olds _ _ e
  exact ⟨f 0 (by decide), f 1 (by decide), f 2 (by decide)⟩

end Go.Proofs.YticgkjcdhmejcaaDoor

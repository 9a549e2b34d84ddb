/- Strings and lists of bytes: the string of a list is one. -/
import Derived.Test.YticgkjcdhmejcaaDoorSp
namespace Go.Proofs.YticgkjcdhmejcaaDoor
open Go.RowKit
set_option linter.unusedVariables false

theorem Spells.data {s : ByteArray} {bs : List Nat} (h : Spells s bs) : s.data.toList = bs.map fun n => UInt8.ofNat n := by
  have hsz : s.data.toList.length = bs.length := by rw [Array.length_toList]; exact h.size
  refine List.ext_getElem (by simp [hsz]) fun k h1 h2 => ?_
  have hk : k < s.size := by rw [h.size, ← hsz]; exact h1
  have hb : k < bs.length := by rw [← h.size]; exact hk
  have hg := h.get k hk
  have e : s[k]'hk = s.data.toList[k] := by simp [ByteArray.getElem_eq_getElem_data]
  rw [e] at hg
  have hd : bs.getD k 0 = bs[k] := by simp [hb]
  rw [hd] at hg
  simp only [List.getElem_map]
  rw [← hg]
  simp
theorem Spells.toList {s : ByteArray} {bs : List Nat} (h : Spells s bs) : s.toList = bs.map fun n => UInt8.ofNat n := by rw [ByteArray.toList_eq]; exact h.data
theorem Spells.inj {s t : ByteArray} {bs : List Nat} (h : Spells s bs) (h' : Spells t bs) : s = t := by
  apply ByteArray.ext
  apply Array.ext'
  rw [h.data, h'.data]
theorem Spells.eq {s : ByteArray} {bs : List Nat} (h : Spells s bs) : s = str bs := h.inj (str_spells h.lt)
theorem Spells.empty {s : ByteArray} {bs : List Nat} (h : Spells s bs) : s.toList.isEmpty = decide (bs = []) := by
  rw [h.toList]; cases bs <;> simp
theorem ofNat_inj {a b : Nat} (ha : a < 256) (hb : b < 256) (h : UInt8.ofNat a = UInt8.ofNat b) : a = b := by
  have := congrArg UInt8.toNat h
  simp at this
  omega
theorem Spells.beq {s t : ByteArray} {a b : List Nat} (h : Spells s a) (h' : Spells t b) : (s.toList == t.toList) = decide (a = b) := by
  rw [Bool.eq_iff_iff, beq_iff_eq, decide_eq_true_iff]
  constructor
  · intro e
    rw [h.toList, h'.toList] at e
    have hl : a.length = b.length := by simpa using congrArg List.length e
    refine List.ext_getElem hl fun k h1 h2 => ?_
    have e2 : (a.map fun n => UInt8.ofNat n)[k]'(by simpa using h1) = (b.map fun n => UInt8.ofNat n)[k]'(by simpa using h2) := by simp only [e]
    simp only [List.getElem_map] at e2
    exact ofNat_inj (h.lt _ (List.getElem_mem h1)) (h'.lt _ (List.getElem_mem h2)) e2
  · intro e; subst e; rw [h.inj h']
theorem Spells.self {s t : ByteArray} {a : List Nat} (h : Spells s a) (h' : Spells t a) : (s.toList == t.toList) = true := by rw [h.beq h']; simp

theorem Spells.cut {s : ByteArray} {bs : List Nat} (h : Spells s bs) {a b : Nat} (hb : b ≤ s.size) (hab : a ≤ b) : Spells (s.extract a b) ((bs.drop a).take (b - a)) := by
  have hsz := h.size
  have e : (s.extract a b).size = b - a := by rw [ByteArray.size_extract]; omega
  refine ⟨by rw [e]; simp; omega, fun k hk => ?_, fun x hx => h.lt x (List.mem_of_mem_drop (List.mem_of_mem_take hx))⟩
  rw [e] at hk
  have h1 : (s.extract a b)[k]'(by rw [e]; exact hk) = s[a + k]'(by omega) := ByteArray.getElem_extract _
  rw [h1, h.get (a + k) (by omega)]
  simp [hk]
theorem Spells.rest {s : ByteArray} {bs : List Nat} (h : Spells s bs) {a : Nat} (ha : a ≤ s.size) : Spells (s.extract a s.size) (bs.drop a) := by
  have := h.cut (Nat.le_refl _) ha
  rwa [List.take_of_length_le (by simp; have := h.size; omega)] at this
theorem spells_nil : Spells ⟨#[]⟩ [] := ⟨rfl, fun k h => absurd h (Nat.not_lt_zero k), fun x hx => by cases hx⟩
end Go.Proofs.YticgkjcdhmejcaaDoor

/- Strings and their bytes: no program. -/
import Derived.Test.YticgkjcdhmejcaaDoorProg
import Derived.Test.YticgkjcdhmejcaaDoorMem
import Derived.Laws.BytesArg
namespace Go.Proofs.YticgkjcdhmejcaaDoor
open Go.RowKit

/-- Bytes as a string. -/
def str (bs : List Nat) : ByteArray := strOfNums (bs.map fun x => ((x : Nat) : Int))

/-- The string s has the bytes bs. -/
structure Spells (s : ByteArray) (bs : List Nat) : Prop where
  size : s.size = bs.length
  get : ∀ k (h : k < s.size), (s[k]'h).toNat = bs.getD k 0
  lt : ∀ x ∈ bs, x < 256

theorem str_size (bs : List Nat) : (str bs).size = bs.length := by simp [str, strOfNums, ByteArray.size]
theorem str_get (bs : List Nat) (hb : ∀ x ∈ bs, x < 256) (k : Nat) (h : k < (str bs).size) : ((str bs)[k]'h).toNat = bs.getD k 0 := by
  have hk : k < bs.length := by rw [str_size] at h; exact h
  have e : (str bs)[k]'h = UInt8.ofNat bs[k] := by simp [str, strOfNums, ByteArray.getElem_eq_getElem_data]
  have hx := hb bs[k] (List.getElem_mem hk)
  rw [e]
  simp [hk]
  omega
theorem str_spells {bs : List Nat} (hb : ∀ x ∈ bs, x < 256) : Spells (str bs) bs := ⟨str_size bs, str_get bs hb, hb⟩
theorem str_app (a b : List Nat) : str (a ++ b) = str a ++ str b := by
  apply ByteArray.ext
  simp [str, strOfNums]
end Go.Proofs.YticgkjcdhmejcaaDoor

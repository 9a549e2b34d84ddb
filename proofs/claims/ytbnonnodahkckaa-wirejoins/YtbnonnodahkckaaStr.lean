/- Bytes as strings. -/
import Derived.Test.YtbnonnodahkckaaOr
import Derived.Laws.BytesArg
namespace Go.Proofs.Ytbnonnodahkckaa
open Go.RowKit

/-- Bytes as a string. -/
def str (bs : List Nat) : ByteArray := strOfNums (bs.map fun x => ((x : Nat) : Int))

theorem conv_or {w : World} {v : Value} {bs : List Nat} (h : ReadsOr w v bs) : (convert 23 9 v).run Try.prog w = .ok (.string (str bs)) w := by
  rcases h with ⟨rfl, a, cap, rfl⟩ | ⟨b, off, cap, h, h0, hb, h1⟩
  · cases a with
    | none => exact run_convert_bytes_nil w 23 5 Try.underlying23 Try.underlying5 0 cap 9 Try.underlying9
    | some x =>
      rw [run_convert_bytes_string w 23 9 5 _ 0 cap Try.underlying23 Try.underlying5 Try.underlying9, run_bytesToString w x 0 cap [] (by simp [loadCells]; rfl)]
      rfl
  · rw [h.shape]
    exact run_convert_bytes_arg w 23 5 Try.underlying23 Try.underlying5 b off bs.length cap _ (by simp) (fun i hi => by rw [h.cell i hi]; simp [hi]) 9 Try.underlying9

/-- The string s has the bytes bs. -/
structure Spells (s : ByteArray) (bs : List Nat) : Prop where
  size : s.size = bs.length
  get : ∀ k (h : k < s.size), (s[k]'h).toNat = bs.getD k 0
  lt : ∀ x ∈ bs, x < 256

theorem str_size (bs : List Nat) : (str bs).size = bs.length := by simp [str, strOfNums, ByteArray.size]
theorem str_get (bs : List Nat) (hb : ∀ x ∈ bs, x < 256) (k : Nat) (h : k < (str bs).size) : ((str bs)[k]'h).toNat = bs.getD k 0 := by
  have hk : k < bs.length := by rw [str_size] at h; exact h
  have e : (str bs)[k]'h = UInt8.ofNat bs[k] := by simp [str, strOfNums, ByteArray.getElem_eq_getElem_data]
  have hx := hb bs[k] (List.getElem_mem hk)
  rw [e]
  simp [hk]
  omega
theorem str_spells {bs : List Nat} (hb : ∀ x ∈ bs, x < 256) : Spells (str bs) bs := ⟨str_size bs, str_get bs hb, hb⟩
theorem str_app (a b : List Nat) : str (a ++ b) = str a ++ str b := by
  apply ByteArray.ext
  simp [str, strOfNums]
end Go.Proofs.Ytbnonnodahkckaa

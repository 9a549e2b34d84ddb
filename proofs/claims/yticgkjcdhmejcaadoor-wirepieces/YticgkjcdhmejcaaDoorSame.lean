/- samePiece. -/
import Derived.Test.YticgkjcdhmejcaaDoorRefSplit
import Derived.Test.YticgkjcdhmejcaaDoorBare
namespace Go.Proofs.YticgkjcdhmejcaaDoor
open Go.RowKit
set_option linter.unusedVariables false
set_option linter.unusedSimpArgs false

theorem ret_true {b : Bool} (h : b = true) : Ending.returned (.bool b) = .returned (.bool true) := by rw [h]

def pcAgg (p : Pc) (vb : Value) : Value := .agg #[.int .i64 (p.number : Int), .int .i64 (p.form : Int), .int .u64 (p.num : Int), vb, .int .i64 (p.long : Int)]
def rpAgg (q : RP) : Value := .agg #[.int .i64 (q.1.number : Int), .int .i64 (q.1.form : Int), .int .u64 (q.1.num : Int), .string q.2.1, .string q.2.2]

set_option maxHeartbeats 2000000 in
set_option maxRecDepth 100000 in
theorem same_any (p : Pc) (a : Option Addr) (n c : Nat) (sb sa : ByteArray) (w : World) (hr : ReadsOr w (.slice a n c) p.bytes) (hb : Spells sb p.bytes) (ha : sa.size = p.long) (hl : p.long ≤ 100000) :
    Calls Tryd.prog 22 #[pcAgg p (.slice a n c), rpAgg (p, sb, sa)] w fun e w' => e = .returned (.bool true) ∧ Kept w.heap.size w w' := by
  unfold pcAgg rpAgg
  have hk := alloc2 w (.cells #[.int .i64 (p.number : Int), .int .i64 (p.form : Int), .int .u64 (p.num : Int), .slice a n c, .int .i64 (p.long : Int)] 47)
    (.cells #[.int .i64 (p.number : Int), .int .i64 (p.form : Int), .int .u64 (p.num : Int), .string sb, .string sa] 43)
  have hcv := conv_or (hr.kept hk)
  have heq : ((str p.bytes).toList == sb.toList) = true := by rw [hb.eq]; simp
  have hsl : sa.size ≤ 100000 := by omega
  have HA : Hid (sa.size = p.long) := ha
  have HK : Hid _ := hk
  clear hk hr hb ha
  go_enter Tryd.func22, Tryd.ntmps22
  go_wp2
  go_ret
  exact ⟨ret_true (by rw [HA.out]; simp), HK.out⟩
end Go.Proofs.YticgkjcdhmejcaaDoor

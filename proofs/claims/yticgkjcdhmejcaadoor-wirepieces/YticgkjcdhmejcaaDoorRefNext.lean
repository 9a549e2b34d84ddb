/- The document's own answer: the first piece. -/
import Derived.Test.YticgkjcdhmejcaaDoorHold
import Derived.Test.YticgkjcdhmejcaaDoorStrEq
namespace Go.Proofs.YticgkjcdhmejcaaDoor
open Go.RowKit
set_option linter.unusedVariables false

theorem rget_none {s : ByteArray} {bs : List Nat} (w : World) (hs : Spells s bs) (hl : bs.length ≤ 1000000) (hg : getv bs 0 = none) :
    Calls Tryd.prog 6 #[.string s] w fun e w' => e = .returned (.tuple #[.int .u64 0, .int .i64 0, .int .i64 3]) ∧ w' = w := by
  have := rget_any s bs w hs hl
  rw [hg] at this
  exact this
theorem rget_some {s : ByteArray} {bs : List Nat} {t c : Nat} (w : World) (hs : Spells s bs) (hl : bs.length ≤ 1000000) (hg : getv bs 0 = some (t, c)) :
    Calls Tryd.prog 6 #[.string s] w fun e w' => e = .returned (.tuple #[.int .u64 (t : Int), .int .i64 (c : Int), .int .i64 0]) ∧ w' = w := by
  have := rget_any s bs w hs hl
  rw [hg] at this
  exact this

/-- No piece, and ErrForm. -/
def rnoPiece : Value := .tuple #[.agg #[.int .i64 0, .int .i64 0, .int .u64 0, .string ⟨#[]⟩, .string ⟨#[]⟩], .int .i64 3]

set_option maxHeartbeats 1000000 in
theorem rnext_tagless1 {s : ByteArray} {bs : List Nat} (w : World) (hs : Spells s bs) (hl : bs.length ≤ 100000) (hg : getv bs 0 = none) :
    Calls Tryd.prog 20 #[.string s] w fun e w' => e = .returned rnoPiece ∧ Kept w.heap.size w w' := by
  have HG : Hid (getv bs 0 = none) := hg
  clear hg
  go_enter Tryd.func20, Tryd.ntmps20
  go_wp2_with fail
  refine (rget_none _ hs (by omega) HG.out).mono ?_
  rintro e w1 ⟨rfl, rfl⟩
  go_wp2
  exact bodyPost_ret (v := rnoPiece) (by simp [results, Tryd.results20, go_sem, rnoPiece]) rfl ⟨rfl, Kept.alloc (Kept.refl _ _) (Nat.le_refl _) _⟩

/-- What the document's Next returns of a piece. -/
def rpcRes (p : Pc) (sb sa : ByteArray) : Value := .tuple #[.agg #[.int .i64 (p.number : Int), .int .i64 (p.form : Int), .int .u64 (p.num : Int), .string sb, .string sa], .int .i64 0]

theorem alloc2' (w : World) (o1 o2 : Obj) : Kept w.heap.size w ((w.alloc o1).alloc o2) := Kept.alloc (Kept.alloc (Kept.refl _ _) (Nat.le_refl _) _) (by simp) _

set_option maxHeartbeats 1000000 in
theorem rnext_low {s : ByteArray} {bs : List Nat} (w : World) (hs : Spells s bs) (hl : bs.length ≤ 100000) (t c : Nat) (hg : getv bs 0 = some (t, c)) (hlo : t / 8 < 1) :
    Calls Tryd.prog 20 #[.string s] w fun e w' => e = .returned rnoPiece ∧ Kept w.heap.size w w' := by
  have ht64 : t < 18446744073709551616 := (getv_bound (by omega) hs.lt hg).2.2.2
  have HG : Hid (getv bs 0 = some (t, c)) := hg
  clear hg
  go_enter Tryd.func20, Tryd.ntmps20
  go_wp2_with fail
  refine (rget_some _ hs (by omega) HG.out).mono ?_
  rintro e w1 ⟨rfl, rfl⟩
  go_wp2
  exact bodyPost_ret (v := rnoPiece) (by simp [results, Tryd.results20, go_sem, rnoPiece]) rfl ⟨rfl, Kept.alloc (Kept.refl _ _) (Nat.le_refl _) _⟩

set_option maxHeartbeats 1000000 in
theorem rnext_high {s : ByteArray} {bs : List Nat} (w : World) (hs : Spells s bs) (hl : bs.length ≤ 100000) (t c : Nat) (hg : getv bs 0 = some (t, c)) (h1 : 1 ≤ t / 8) (hhi : 536870911 < t / 8) :
    Calls Tryd.prog 20 #[.string s] w fun e w' => e = .returned rnoPiece ∧ Kept w.heap.size w w' := by
  have ht64 : t < 18446744073709551616 := (getv_bound (by omega) hs.lt hg).2.2.2
  have HG : Hid (getv bs 0 = some (t, c)) := hg
  clear hg
  go_enter Tryd.func20, Tryd.ntmps20
  go_wp2_with fail
  refine (rget_some _ hs (by omega) HG.out).mono ?_
  rintro e w1 ⟨rfl, rfl⟩
  go_wp2
  exact bodyPost_ret (v := rnoPiece) (by simp [results, Tryd.results20, go_sem, rnoPiece]) rfl ⟨rfl, Kept.alloc (Kept.refl _ _) (Nat.le_refl _) _⟩

set_option maxHeartbeats 1000000 in
theorem rnext_f0_none {s : ByteArray} {bs : List Nat} (w : World) (hs : Spells s bs) (hl : bs.length ≤ 100000) (t c : Nat) (hg : getv bs 0 = some (t, c)) (h1 : 1 ≤ t / 8) (h2 : t / 8 ≤ 536870911) (hc : c ≤ bs.length) (hc10 : c ≤ 10) (h8 : t % 8 = 0) (hg2 : getv (bs.drop c) 0 = none) :
    Calls Tryd.prog 20 #[.string s] w fun e w' => e = .returned rnoPiece ∧ Kept w.heap.size w w' := by
  have HG2 : Hid (getv (bs.drop c) 0 = none) := hg2
  clear hg2
  have ht64 : t < 18446744073709551616 := (getv_bound (by omega) hs.lt hg).2.2.2
  have HG : Hid (getv bs 0 = some (t, c)) := hg
  clear hg
  have hsz : s.size = bs.length := hs.size
  have HSZ : Hid (s.size = bs.length) := hsz
  have hcs : c ≤ s.size := by omega
  have hsl : s.size ≤ 100000 := by omega
  have hrest : Spells (s.extract c s.size) (bs.drop c) := hs.rest hcs
  have hrl : (s.extract c s.size).size = s.size - c := by rw [ByteArray.size_extract]; omega
  have hdl : (bs.drop c).length ≤ 1000000 := by simp; omega
  clear hsz
  have h8' : (t : Int) % 8 = 0 := by omega
  go_enter Tryd.func20, Tryd.ntmps20
  go_wp2_with fail
  refine (rget_some _ hs (by omega) HG.out).mono ?_
  rintro e w1 ⟨rfl, rfl⟩
  go_wp2_with fail
  refine (rget_none _ hrest hdl HG2.out).mono ?_
  rintro e w2 ⟨rfl, rfl⟩
  go_wp2
  exact bodyPost_ret (v := rnoPiece) (by simp [results, Tryd.results20, go_sem, rnoPiece]) rfl ⟨rfl, alloc2' _ _ _⟩

set_option maxHeartbeats 1000000 in
theorem rnext_f0_some {s : ByteArray} {bs : List Nat} (w : World) (hs : Spells s bs) (hl : bs.length ≤ 100000) (t c : Nat) (hg : getv bs 0 = some (t, c)) (h1 : 1 ≤ t / 8) (h2 : t / 8 ≤ 536870911) (hc : c ≤ bs.length) (hc10 : c ≤ 10) (h8 : t % 8 = 0) (v k : Nat) (hg2 : getv (bs.drop c) 0 = some (v, k)) (hk10 : k ≤ 10) (hk : c + k ≤ bs.length) :
    Calls Tryd.prog 20 #[.string s] w fun e w' => ∃ sb sa, e = .returned (rpcRes ⟨t / 8, 0, v, [], c + k⟩ sb sa) ∧ Spells sb ([]) ∧ sa.size = c + k ∧ Kept w.heap.size w w' := by
  have HG2 : Hid (getv (bs.drop c) 0 = some (v, k)) := hg2
  have hck : c + k ≤ s.size := by rw [hs.size]; exact hk
  clear hg2
  have ht64 : t < 18446744073709551616 := (getv_bound (by omega) hs.lt hg).2.2.2
  have HG : Hid (getv bs 0 = some (t, c)) := hg
  clear hg
  have hsz : s.size = bs.length := hs.size
  have HSZ : Hid (s.size = bs.length) := hsz
  have hcs : c ≤ s.size := by omega
  have hsl : s.size ≤ 100000 := by omega
  have hrest : Spells (s.extract c s.size) (bs.drop c) := hs.rest hcs
  have hrl : (s.extract c s.size).size = s.size - c := by rw [ByteArray.size_extract]; omega
  have hdl : (bs.drop c).length ≤ 1000000 := by simp; omega
  clear hsz
  have h8' : (t : Int) % 8 = 0 := by omega
  go_enter Tryd.func20, Tryd.ntmps20
  go_wp2_with fail
  refine (rget_some _ hs (by omega) HG.out).mono ?_
  rintro e w1 ⟨rfl, rfl⟩
  go_wp2_with fail
  refine (rget_some _ hrest hdl HG2.out).mono ?_
  rintro e w2 ⟨rfl, rfl⟩
  have hse : (s.extract 0 (c + k)).size = c + k := by rw [ByteArray.size_extract]; omega
  go_wp2
  exact bodyPost_ret (v := .tuple #[.agg #[.int .i64 ((t : Int) / 8), .int .i64 0, .int .u64 (v : Int), .string ⟨#[]⟩, .string (s.extract 0 (c + k))], .int .i64 0]) (by simp [results, Tryd.results20, go_sem]) rfl ⟨⟨#[]⟩, s.extract 0 (c + k), by simp [rpcRes], spells_nil, hse, alloc2' _ _ _⟩

end Go.Proofs.YticgkjcdhmejcaaDoor

/- The document's own answer: the first piece, the forms 2, 1 and 5, and the others. -/
import Derived.Test.YticgkjcdhmejcaaDoorRefNext
import Derived.Deep.DrawnRows
namespace Go.Proofs.YticgkjcdhmejcaaDoor
open Go.RowKit
set_option linter.unusedVariables false

set_option maxHeartbeats 1000000 in
set_option maxRecDepth 100000 in
theorem rnext_f3 {s : ByteArray} {bs : List Nat} (w : World) (hs : Spells s bs) (hl : bs.length ≤ 100000) (t c : Nat) (hg : getv bs 0 = some (t, c)) (h1 : 1 ≤ t / 8) (h2 : t / 8 ≤ 536870911) (hc : c ≤ bs.length) (hc10 : c ≤ 10) (h8 : t % 8 = 3) :
    Calls Tryd.prog 20 #[.string s] w fun e w' => e = .returned rnoPiece ∧ Kept w.heap.size w w' := by
  have ht64 : t < 18446744073709551616 := (getv_bound (by omega) hs.lt hg).2.2.2
  have HG : Hid (getv bs 0 = some (t, c)) := hg
  clear hg
  have hsz : s.size = bs.length := hs.size
  have HSZ : Hid (s.size = bs.length) := hsz
  have hcs : c ≤ s.size := by omega
  have hsl : s.size ≤ 100000 := by omega
  have hrest : Spells (s.extract c s.size) (bs.drop c) := hs.rest hcs
  have hrl : (s.extract c s.size).size = s.size - c := by rw [ByteArray.size_extract]; omega
  have hdl : (bs.drop c).length ≤ 1000000 := by simp; omega
  clear hsz
  have h8' : (t : Int) % 8 = 3 := by omega
  go_enter Tryd.func20, Tryd.ntmps20
  go_wp2_with fail
  refine (rget_some _ hs (by omega) HG.out).mono ?_
  rintro e w1 ⟨rfl, rfl⟩
  go_wp2
  exact bodyPost_ret (v := rnoPiece) (by simp [results, Tryd.results20, go_sem, rnoPiece]) rfl ⟨rfl, alloc2' _ _ _⟩

set_option maxHeartbeats 1000000 in
set_option maxRecDepth 100000 in
theorem rnext_f4 {s : ByteArray} {bs : List Nat} (w : World) (hs : Spells s bs) (hl : bs.length ≤ 100000) (t c : Nat) (hg : getv bs 0 = some (t, c)) (h1 : 1 ≤ t / 8) (h2 : t / 8 ≤ 536870911) (hc : c ≤ bs.length) (hc10 : c ≤ 10) (h8 : t % 8 = 4) :
    Calls Tryd.prog 20 #[.string s] w fun e w' => e = .returned rnoPiece ∧ Kept w.heap.size w w' := by
  have ht64 : t < 18446744073709551616 := (getv_bound (by omega) hs.lt hg).2.2.2
  have HG : Hid (getv bs 0 = some (t, c)) := hg
  clear hg
  have hsz : s.size = bs.length := hs.size
  have HSZ : Hid (s.size = bs.length) := hsz
  have hcs : c ≤ s.size := by omega
  have hsl : s.size ≤ 100000 := by omega
  have hrest : Spells (s.extract c s.size) (bs.drop c) := hs.rest hcs
  have hrl : (s.extract c s.size).size = s.size - c := by rw [ByteArray.size_extract]; omega
  have hdl : (bs.drop c).length ≤ 1000000 := by simp; omega
  clear hsz
  have h8' : (t : Int) % 8 = 4 := by omega
  go_enter Tryd.func20, Tryd.ntmps20
  go_wp2_with fail
  refine (rget_some _ hs (by omega) HG.out).mono ?_
  rintro e w1 ⟨rfl, rfl⟩
  go_wp2
  exact bodyPost_ret (v := rnoPiece) (by simp [results, Tryd.results20, go_sem, rnoPiece]) rfl ⟨rfl, alloc2' _ _ _⟩

set_option maxHeartbeats 1000000 in
set_option maxRecDepth 100000 in
theorem rnext_f6 {s : ByteArray} {bs : List Nat} (w : World) (hs : Spells s bs) (hl : bs.length ≤ 100000) (t c : Nat) (hg : getv bs 0 = some (t, c)) (h1 : 1 ≤ t / 8) (h2 : t / 8 ≤ 536870911) (hc : c ≤ bs.length) (hc10 : c ≤ 10) (h8 : t % 8 = 6) :
    Calls Tryd.prog 20 #[.string s] w fun e w' => e = .returned rnoPiece ∧ Kept w.heap.size w w' := by
  have ht64 : t < 18446744073709551616 := (getv_bound (by omega) hs.lt hg).2.2.2
  have HG : Hid (getv bs 0 = some (t, c)) := hg
  clear hg
  have hsz : s.size = bs.length := hs.size
  have HSZ : Hid (s.size = bs.length) := hsz
  have hcs : c ≤ s.size := by omega
  have hsl : s.size ≤ 100000 := by omega
  have hrest : Spells (s.extract c s.size) (bs.drop c) := hs.rest hcs
  have hrl : (s.extract c s.size).size = s.size - c := by rw [ByteArray.size_extract]; omega
  have hdl : (bs.drop c).length ≤ 1000000 := by simp; omega
  clear hsz
  have h8' : (t : Int) % 8 = 6 := by omega
  go_enter Tryd.func20, Tryd.ntmps20
  go_wp2_with fail
  refine (rget_some _ hs (by omega) HG.out).mono ?_
  rintro e w1 ⟨rfl, rfl⟩
  go_wp2
  exact bodyPost_ret (v := rnoPiece) (by simp [results, Tryd.results20, go_sem, rnoPiece]) rfl ⟨rfl, alloc2' _ _ _⟩

set_option maxHeartbeats 1000000 in
set_option maxRecDepth 100000 in
theorem rnext_f7 {s : ByteArray} {bs : List Nat} (w : World) (hs : Spells s bs) (hl : bs.length ≤ 100000) (t c : Nat) (hg : getv bs 0 = some (t, c)) (h1 : 1 ≤ t / 8) (h2 : t / 8 ≤ 536870911) (hc : c ≤ bs.length) (hc10 : c ≤ 10) (h8 : t % 8 = 7) :
    Calls Tryd.prog 20 #[.string s] w fun e w' => e = .returned rnoPiece ∧ Kept w.heap.size w w' := by
  have ht64 : t < 18446744073709551616 := (getv_bound (by omega) hs.lt hg).2.2.2
  have HG : Hid (getv bs 0 = some (t, c)) := hg
  clear hg
  have hsz : s.size = bs.length := hs.size
  have HSZ : Hid (s.size = bs.length) := hsz
  have hcs : c ≤ s.size := by omega
  have hsl : s.size ≤ 100000 := by omega
  have hrest : Spells (s.extract c s.size) (bs.drop c) := hs.rest hcs
  have hrl : (s.extract c s.size).size = s.size - c := by rw [ByteArray.size_extract]; omega
  have hdl : (bs.drop c).length ≤ 1000000 := by simp; omega
  clear hsz
  have h8' : (t : Int) % 8 = 7 := by omega
  go_enter Tryd.func20, Tryd.ntmps20
  go_wp2_with fail
  refine (rget_some _ hs (by omega) HG.out).mono ?_
  rintro e w1 ⟨rfl, rfl⟩
  go_wp2
  exact bodyPost_ret (v := rnoPiece) (by simp [results, Tryd.results20, go_sem, rnoPiece]) rfl ⟨rfl, alloc2' _ _ _⟩

set_option maxHeartbeats 1000000 in
set_option maxRecDepth 100000 in
theorem rnext_f2_none {s : ByteArray} {bs : List Nat} (w : World) (hs : Spells s bs) (hl : bs.length ≤ 100000) (t c : Nat) (hg : getv bs 0 = some (t, c)) (h1 : 1 ≤ t / 8) (h2 : t / 8 ≤ 536870911) (hc : c ≤ bs.length) (hc10 : c ≤ 10) (h8 : t % 8 = 2) (hg2 : getv (bs.drop c) 0 = none) :
    Calls Tryd.prog 20 #[.string s] w fun e w' => e = .returned rnoPiece ∧ Kept w.heap.size w w' := by
  have HG2 : Hid (getv (bs.drop c) 0 = none) := hg2
  clear hg2
  have ht64 : t < 18446744073709551616 := (getv_bound (by omega) hs.lt hg).2.2.2
  have HG : Hid (getv bs 0 = some (t, c)) := hg
  clear hg
  have hsz : s.size = bs.length := hs.size
  have HSZ : Hid (s.size = bs.length) := hsz
  have hcs : c ≤ s.size := by omega
  have hsl : s.size ≤ 100000 := by omega
  have hrest : Spells (s.extract c s.size) (bs.drop c) := hs.rest hcs
  have hrl : (s.extract c s.size).size = s.size - c := by rw [ByteArray.size_extract]; omega
  have hdl : (bs.drop c).length ≤ 1000000 := by simp; omega
  clear hsz
  have h8' : (t : Int) % 8 = 2 := by omega
  go_enter Tryd.func20, Tryd.ntmps20
  go_wp2_with fail
  refine (rget_some _ hs (by omega) HG.out).mono ?_
  rintro e w1 ⟨rfl, rfl⟩
  go_wp2_with fail
  refine (rget_none _ hrest hdl HG2.out).mono ?_
  rintro e w2 ⟨rfl, rfl⟩
  go_wp2
  exact bodyPost_ret (v := rnoPiece) (by simp [results, Tryd.results20, go_sem, rnoPiece]) rfl ⟨rfl, alloc2' _ _ _⟩

set_option maxHeartbeats 1000000 in
set_option maxRecDepth 100000 in
theorem rnext_f2_long {s : ByteArray} {bs : List Nat} (w : World) (hs : Spells s bs) (hl : bs.length ≤ 100000) (t c : Nat) (hg : getv bs 0 = some (t, c)) (h1 : 1 ≤ t / 8) (h2 : t / 8 ≤ 536870911) (hc : c ≤ bs.length) (hc10 : c ≤ 10) (h8 : t % 8 = 2) (v k : Nat) (hg2 : getv (bs.drop c) 0 = some (v, k)) (hk10 : k ≤ 10) (hk : c + k ≤ bs.length) (hbig : bs.length - c - k < v) :
    Calls Tryd.prog 20 #[.string s] w fun e w' => e = .returned rnoPiece ∧ Kept w.heap.size w w' := by
  have HG2 : Hid (getv (bs.drop c) 0 = some (v, k)) := hg2
  have hck : c + k ≤ s.size := by rw [hs.size]; exact hk
  have hv64 : v < 18446744073709551616 := (getv_bound (by omega) (fun x hx => hs.lt x (List.mem_of_mem_drop hx)) hg2).2.2.2
  clear hg2
  have hbg : s.size - c - k < v := by rw [hs.size]; exact hbig
  have ht64 : t < 18446744073709551616 := (getv_bound (by omega) hs.lt hg).2.2.2
  have HG : Hid (getv bs 0 = some (t, c)) := hg
  clear hg
  have hsz : s.size = bs.length := hs.size
  have HSZ : Hid (s.size = bs.length) := hsz
  have hcs : c ≤ s.size := by omega
  have hsl : s.size ≤ 100000 := by omega
  have hrest : Spells (s.extract c s.size) (bs.drop c) := hs.rest hcs
  have hrl : (s.extract c s.size).size = s.size - c := by rw [ByteArray.size_extract]; omega
  have hdl : (bs.drop c).length ≤ 1000000 := by simp; omega
  clear hsz
  have h8' : (t : Int) % 8 = 2 := by omega
  go_enter Tryd.func20, Tryd.ntmps20
  go_wp2_with fail
  refine (rget_some _ hs (by omega) HG.out).mono ?_
  rintro e w1 ⟨rfl, rfl⟩
  go_wp2_with fail
  refine (rget_some _ hrest hdl HG2.out).mono ?_
  rintro e w2 ⟨rfl, rfl⟩
  go_wp2
  exact bodyPost_ret (v := rnoPiece) (by simp [results, Tryd.results20, go_sem, rnoPiece]) rfl ⟨rfl, alloc2' _ _ _⟩

set_option maxHeartbeats 1000000 in
set_option maxRecDepth 100000 in
theorem rnext_f2_some {s : ByteArray} {bs : List Nat} (w : World) (hs : Spells s bs) (hl : bs.length ≤ 100000) (t c : Nat) (hg : getv bs 0 = some (t, c)) (h1 : 1 ≤ t / 8) (h2 : t / 8 ≤ 536870911) (hc : c ≤ bs.length) (hc10 : c ≤ 10) (h8 : t % 8 = 2) (v k : Nat) (hg2 : getv (bs.drop c) 0 = some (v, k)) (hk10 : k ≤ 10) (hk : c + k ≤ bs.length) (hfit : v ≤ bs.length - c - k) :
    Calls Tryd.prog 20 #[.string s] w fun e w' => ∃ sb sa, e = .returned (rpcRes ⟨t / 8, 2, 0, ((bs.drop c).drop k).take v, c + k + v⟩ sb sa) ∧ Spells sb (((bs.drop c).drop k).take v) ∧ sa.size = c + k + v ∧ Kept w.heap.size w w' := by
  have HG2 : Hid (getv (bs.drop c) 0 = some (v, k)) := hg2
  have hck : c + k ≤ s.size := by rw [hs.size]; exact hk
  have hv64 : v < 18446744073709551616 := (getv_bound (by omega) (fun x hx => hs.lt x (List.mem_of_mem_drop hx)) hg2).2.2.2
  clear hg2
  have hft : v ≤ s.size - c - k := by rw [hs.size]; exact hfit
  have ht64 : t < 18446744073709551616 := (getv_bound (by omega) hs.lt hg).2.2.2
  have HG : Hid (getv bs 0 = some (t, c)) := hg
  clear hg
  have hsz : s.size = bs.length := hs.size
  have HSZ : Hid (s.size = bs.length) := hsz
  have hcs : c ≤ s.size := by omega
  have hsl : s.size ≤ 100000 := by omega
  have hrest : Spells (s.extract c s.size) (bs.drop c) := hs.rest hcs
  have hrl : (s.extract c s.size).size = s.size - c := by rw [ByteArray.size_extract]; omega
  have hdl : (bs.drop c).length ≤ 1000000 := by simp; omega
  clear hsz
  have h8' : (t : Int) % 8 = 2 := by omega
  go_enter Tryd.func20, Tryd.ntmps20
  go_wp2_with fail
  refine (rget_some _ hs (by omega) HG.out).mono ?_
  rintro e w1 ⟨rfl, rfl⟩
  go_wp2_with fail
  refine (rget_some _ hrest hdl HG2.out).mono ?_
  rintro e w2 ⟨rfl, rfl⟩
  have hse : (s.extract 0 (c + k + v)).size = c + k + v := by rw [ByteArray.size_extract]; omega
  have hsb := hrest.cut (a := k) (b := k + v) (by omega) (by omega)
  rw [Nat.add_sub_cancel_left] at hsb
  have HSB : Hid (Spells ((s.extract c s.size).extract k (k + v)) (((bs.drop c).drop k).take v)) := hsb
  clear hsb
  have hl1 : k + v ≤ (s.extract c s.size).size := by omega
  have hl2 : (s.extract c s.size).size ≤ 100000 := by omega
  have hckv : c + k + v ≤ s.size := by omega
  clear hrl hrest
  generalize s.extract c s.size = l at *
  clear hft hfit
  have hcut : ∀ W : World, (Instr.slice 9 (.string l) (some (.int .i64 (k : Int))) (some (.int .i64 ((k : Int) + (v : Int)))) none).run Tryd.prog W = .ok (.string (l.extract k (k + v))) W := fun W =>
    run_slice_string W 9 l .i64 .i64 (k : Int) ((k : Int) + (v : Int)) Tryd.underlying9 (by omega) (by omega) (by omega)
  go_wp2
  exact bodyPost_ret (v := .tuple #[.agg #[.int .i64 ((t : Int) / 8), .int .i64 2, .int .u64 0, .string (l.extract k (k + v)), .string (s.extract 0 (c + k + v))], .int .i64 0]) (by simp [results, Tryd.results20, go_sem]) rfl ⟨_, s.extract 0 (c + k + v), by simp [rpcRes], HSB.out, hse, alloc2' _ _ _⟩

set_option maxHeartbeats 1000000 in
set_option maxRecDepth 100000 in
theorem rnext_f1_short {s : ByteArray} {bs : List Nat} (w : World) (hs : Spells s bs) (hl : bs.length ≤ 100000) (t c : Nat) (hg : getv bs 0 = some (t, c)) (h1 : 1 ≤ t / 8) (h2 : t / 8 ≤ 536870911) (hc : c ≤ bs.length) (hc10 : c ≤ 10) (h8 : t % 8 = 1) (hsh : bs.length - c < 8) :
    Calls Tryd.prog 20 #[.string s] w fun e w' => e = .returned rnoPiece ∧ Kept w.heap.size w w' := by
  have hsh2 : s.size - c < 8 := by rw [hs.size]; exact hsh
  have ht64 : t < 18446744073709551616 := (getv_bound (by omega) hs.lt hg).2.2.2
  have HG : Hid (getv bs 0 = some (t, c)) := hg
  clear hg
  have hsz : s.size = bs.length := hs.size
  have HSZ : Hid (s.size = bs.length) := hsz
  have hcs : c ≤ s.size := by omega
  have hsl : s.size ≤ 100000 := by omega
  have hrest : Spells (s.extract c s.size) (bs.drop c) := hs.rest hcs
  have hrl : (s.extract c s.size).size = s.size - c := by rw [ByteArray.size_extract]; omega
  have hdl : (bs.drop c).length ≤ 1000000 := by simp; omega
  clear hsz
  have h8' : (t : Int) % 8 = 1 := by omega
  go_enter Tryd.func20, Tryd.ntmps20
  go_wp2_with fail
  refine (rget_some _ hs (by omega) HG.out).mono ?_
  rintro e w1 ⟨rfl, rfl⟩
  go_wp2
  exact bodyPost_ret (v := rnoPiece) (by simp [results, Tryd.results20, go_sem, rnoPiece]) rfl ⟨rfl, alloc2' _ _ _⟩

set_option maxHeartbeats 1000000 in
set_option maxRecDepth 100000 in
theorem rnext_f5_short {s : ByteArray} {bs : List Nat} (w : World) (hs : Spells s bs) (hl : bs.length ≤ 100000) (t c : Nat) (hg : getv bs 0 = some (t, c)) (h1 : 1 ≤ t / 8) (h2 : t / 8 ≤ 536870911) (hc : c ≤ bs.length) (hc10 : c ≤ 10) (h8 : t % 8 = 5) (hsh : bs.length - c < 4) :
    Calls Tryd.prog 20 #[.string s] w fun e w' => e = .returned rnoPiece ∧ Kept w.heap.size w w' := by
  have hsh2 : s.size - c < 4 := by rw [hs.size]; exact hsh
  have ht64 : t < 18446744073709551616 := (getv_bound (by omega) hs.lt hg).2.2.2
  have HG : Hid (getv bs 0 = some (t, c)) := hg
  clear hg
  have hsz : s.size = bs.length := hs.size
  have HSZ : Hid (s.size = bs.length) := hsz
  have hcs : c ≤ s.size := by omega
  have hsl : s.size ≤ 100000 := by omega
  have hrest : Spells (s.extract c s.size) (bs.drop c) := hs.rest hcs
  have hrl : (s.extract c s.size).size = s.size - c := by rw [ByteArray.size_extract]; omega
  have hdl : (bs.drop c).length ≤ 1000000 := by simp; omega
  clear hsz
  have h8' : (t : Int) % 8 = 5 := by omega
  go_enter Tryd.func20, Tryd.ntmps20
  go_wp2_with fail
  refine (rget_some _ hs (by omega) HG.out).mono ?_
  rintro e w1 ⟨rfl, rfl⟩
  go_wp2
  exact bodyPost_ret (v := rnoPiece) (by simp [results, Tryd.results20, go_sem, rnoPiece]) rfl ⟨rfl, alloc2' _ _ _⟩

end Go.Proofs.YticgkjcdhmejcaaDoor

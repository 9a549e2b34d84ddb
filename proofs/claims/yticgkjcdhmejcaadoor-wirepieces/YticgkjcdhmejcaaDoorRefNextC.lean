/- The document's own answer: the first piece, the forms 1 and 5. -/
import Derived.Test.YticgkjcdhmejcaaDoorRefNextB
import Derived.RegionTactic
import Derived.ChangeAlike
namespace Go.Proofs.YticgkjcdhmejcaaDoor
open Go.RowKit
set_option linter.unusedVariables false
set_option linter.unusedSimpArgs false

/-- What 'n += uint64(left[i]) << (8*i)' comes to. -/
theorem add_fix {k acc x : Nat} (hx : x < 256) (hacc : acc < 256 ^ k) (hk : k < 8) :
    IntKind.u64.wrap ((acc : Int) + IntKind.u64.wrap ((x : Int) * 2 ^ (8 * k))) = ((acc + 256 ^ k * x : Nat) : Int) := by
  have e8 : (256 : Nat) ^ k = 2 ^ (8 * k) := by rw [Nat.pow_mul]
  have h1 : 256 ^ k * x + 256 ^ k ≤ 256 ^ k * 256 := by
    have : 256 ^ k * (x + 1) ≤ 256 ^ k * 256 := Nat.mul_le_mul_left _ (by omega)
    rw [Nat.mul_add, Nat.mul_one] at this; exact this
  have h2 : 256 ^ k * 256 ≤ 256 ^ 8 := by
    rw [← Nat.pow_succ]; exact Nat.pow_le_pow_right (by decide) (by omega)
  have e2 : ((x : Int) * 2 ^ (8 * k)) = ((256 ^ k * x : Nat) : Int) := by
    rw [Int.natCast_mul, e8, Int.natCast_pow, Int.mul_comm]; rfl
  rw [e2, IntKind.wrap_u64, IntKind.wrap_u64]
  omega

/-- What the two new variables hold. -/
structure Two (w wr : World) (a b : Int) (acc : Nat) : Prop where
  kept : Kept w.heap.size w wr
  size : wr.heap.size = w.heap.size + 2
  z0 : wr.cell? ⟨w.heap.size, 0, none⟩ = some (.int .i64 0)
  z1 : wr.cell? ⟨w.heap.size, 1, none⟩ = some (.int .i64 0)
  z2 : wr.cell? ⟨w.heap.size, 2, none⟩ = some (.int .u64 0)
  z3 : wr.cell? ⟨w.heap.size, 3, none⟩ = some (.string ⟨#[]⟩)
  z4 : wr.cell? ⟨w.heap.size, 4, none⟩ = some (.string ⟨#[]⟩)
  p0 : wr.cell? ⟨w.heap.size + 1, 0, none⟩ = some (.int .i64 a)
  p1 : wr.cell? ⟨w.heap.size + 1, 1, none⟩ = some (.int .i64 b)
  p2 : wr.cell? ⟨w.heap.size + 1, 2, none⟩ = some (.int .u64 (acc : Int))
  p3 : wr.cell? ⟨w.heap.size + 1, 3, none⟩ = some (.string ⟨#[]⟩)
  p4 : wr.cell? ⟨w.heap.size + 1, 4, none⟩ = some (.string ⟨#[]⟩)
  fz : ∀ k, wr.frozen? ⟨w.heap.size, k, none⟩ = false
  fp : ∀ k, wr.frozen? ⟨w.heap.size + 1, k, none⟩ = false

theorem two_start (w : World) (a b : Int) (ty : TypeId) : Two w ((w.alloc (.cells #[.int .i64 0, .int .i64 0, .int .u64 0, .string ⟨#[]⟩, .string ⟨#[]⟩] ty)).alloc (.cells #[.int .i64 a, .int .i64 b, .int .u64 0, .string ⟨#[]⟩, .string ⟨#[]⟩] ty)) a b 0 := by
  refine ⟨alloc2' _ _ _, by simp, ?_, ?_, ?_, ?_, ?_, ?_, ?_, ?_, ?_, ?_, ?_, ?_⟩ <;> simp
theorem Two.step {w wr : World} {a b : Int} {acc : Nat} (h : Two w wr a b acc) (acc' : Nat) : Two w (wr.setCell ⟨w.heap.size + 1, 2, none⟩ (.int .u64 (acc' : Int))).drew a b acc' := by
  obtain ⟨k, s, z0, z1, z2, z3, z4, p0, p1, p2, p3, p4, fz, fp⟩ := h
  have K : Kept w.heap.size w (wr.setCell ⟨w.heap.size + 1, 2, none⟩ (.int .u64 (acc' : Int))) := Kept.setCell k (by simp) _
  refine ⟨⟨K.os, K.output, K.size, K.block⟩, by simp [s], ?_, ?_, ?_, ?_, ?_, ?_, ?_, ?_, ?_, ?_, ?_, ?_⟩ <;> simp [go_sem, *]

set_option maxHeartbeats 2000000 in
set_option maxRecDepth 100000 in
theorem rnext_f1_some {s : ByteArray} {bs : List Nat} (w : World) (hs : Spells s bs) (hl : bs.length ≤ 100000) (t c : Nat) (hg : getv bs 0 = some (t, c)) (h1 : 1 ≤ t / 8) (h2 : t / 8 ≤ 536870911) (hc : c ≤ bs.length) (hc10 : c ≤ 10) (h8 : t % 8 = 1) (hsh : 8 ≤ bs.length - c) :
    Calls Tryd.prog 20 #[.string s] w fun e w' => ∃ sb sa, e = .returned (rpcRes ⟨t / 8, 1, le 8 (bs.drop c), [], c + 8⟩ sb sa) ∧ Spells sb [] ∧ sa.size = c + 8 ∧ Kept w.heap.size w w' := by
  have hsh2 : 8 ≤ s.size - c := by rw [hs.size]; exact hsh
  have ht64 : t < 18446744073709551616 := (getv_bound (by omega) hs.lt hg).2.2.2
  have HG : Hid (getv bs 0 = some (t, c)) := hg
  clear hg
  have hsz : s.size = bs.length := hs.size
  have HSZ : Hid (s.size = bs.length) := hsz
  have hcs : c ≤ s.size := by omega
  have hsl : s.size ≤ 100000 := by omega
  have hrest : Spells (s.extract c s.size) (bs.drop c) := hs.rest hcs
  have hrl : (s.extract c s.size).size = s.size - c := by rw [ByteArray.size_extract]; omega
  have hdl : (bs.drop c).length ≤ 1000000 := by simp; omega
  clear hsz
  have h8' : (t : Int) % 8 = 1 := by omega
  go_enter Tryd.func20, Tryd.ntmps20
  go_wp2_with fail
  refine (rget_some _ hs (by omega) HG.out).mono ?_
  rintro e w1 ⟨rfl, rfl⟩
  go_wp2
  have hrl2 : 8 ≤ (s.extract c s.size).size := by omega
  have hrl3 : (s.extract c s.size).size ≤ 100000 := by omega
  clear hrl
  have HR : Hid (Spells (s.extract c s.size) (bs.drop c)) := hrest
  clear hrest
  generalize hL : s.extract c s.size = l at *
  clear hL
  go_loopw [78] (fun v wr => ∃ j acc : Nat, j ≤ 8 ∧ v = .int .i64 j ∧ Hid (acc = le j (bs.drop c)) ∧ Two w wr ((t : Int) / 8) 1 acc) (fun v _ => 8 - (intOf v).toNat)
  case atStart => exact ⟨0, 0, Nat.zero_le _, rfl, rfl, two_start _ _ _ _⟩
  case round =>
    obtain ⟨j, acc, hj, rfl, hacc, hT⟩ := hrel
    by_cases hlt : j < 8
    · have hjl : j < l.size := by omega
      obtain ⟨x, hx⟩ : ∃ x, x = (bs.drop c).getD j 0 := ⟨_, rfl⟩
      have hget : (l[j]'hjl).toNat = x := by rw [HR.out.get j hjl, hx]
      have hjb : j < (bs.drop c).length := by rw [← HR.out.size]; exact hjl
      have hx256 : x < 256 := by
        rw [hx]; simp only [List.getD_eq_getElem?_getD, List.getElem?_eq_getElem hjb, Option.getD_some]; exact HR.out.lt _ (List.getElem_mem hjb)
      have hal : acc < 256 ^ j := by rw [hacc.out]; exact le_lt j _ HR.out.lt
      have HO : Hid (IntKind.u64.wrap ((acc : Int) + IntKind.u64.wrap ((x : Int) * 2 ^ (8 * j))) = ((acc + 256 ^ j * x : Nat) : Int)) := add_fix hx256 hal (by omega)
      have HL : Hid (acc + 256 ^ j * x = le (j + 1) (bs.drop c)) := by
        show acc + 256 ^ j * x = le (j + 1) (bs.drop c)
        rw [le_succ j _ hjb, ← hx, ← hacc.out]
      have p2 := hT.p2
      have fp := hT.fp 2
      have HT : Hid (Two w (wr.setCell ⟨w.heap.size + 1, 2, none⟩ (.int .u64 ((acc + 256 ^ j * x : Nat) : Int))).drew ((t : Int) / 8) 1 (acc + 256 ^ j * x)) := hT.step _
      clear hal hx hacc hjb hT hdl
      go_wp2
      go_region
      go_wp2
      refine ⟨⟨j + 1, acc + 256 ^ j * x, by omega, by go_num, HL, ?_⟩, ?_⟩
      · rw [HO.out]; exact HT.out
      · simp [intOf]; omega
    · obtain rfl : j = 8 := by omega
      obtain ⟨HK, sz, z0, z1, z2, z3, z4, p0, p1, p2, p3, p4, fz, fp⟩ := hT
      have HKH : Hid (Kept w.heap.size w wr) := HK
      have fz0 := fz 0
      have fz1 := fz 1
      have fz2 := fz 2
      have fz3 := fz 3
      have fz4 := fz 4
      have fp4 := fp 4
      have hse : (s.extract 0 (c + 8)).size = c + 8 := by rw [ByteArray.size_extract]; omega
      clear HK sz fz fp hdl HR
      go_wp2
      refine bodyPost_ret (v := .tuple #[.agg #[.int .i64 ((t : Int) / 8), .int .i64 1, .int .u64 (acc : Int), .string ⟨#[]⟩, .string (s.extract 0 (c + 8))], .int .i64 0]) (by simp [results, Tryd.results20, go_sem, z0, z1, z2, z3, z4]) rfl ⟨⟨#[]⟩, s.extract 0 (c + 8), by simp [rpcRes, ← hacc.out], spells_nil, hse, ?_⟩
      exact Kept.setCell (Kept.setCell (Kept.setCell (Kept.setCell (Kept.setCell (Kept.setCell HKH.out (by simp) _) (by simp) _) (by simp) _) (by simp) _) (by simp) _) (by simp) _

set_option maxHeartbeats 2000000 in
set_option maxRecDepth 100000 in
theorem rnext_f5_some {s : ByteArray} {bs : List Nat} (w : World) (hs : Spells s bs) (hl : bs.length ≤ 100000) (t c : Nat) (hg : getv bs 0 = some (t, c)) (h1 : 1 ≤ t / 8) (h2 : t / 8 ≤ 536870911) (hc : c ≤ bs.length) (hc10 : c ≤ 10) (h8 : t % 8 = 5) (hsh : 4 ≤ bs.length - c) :
    Calls Tryd.prog 20 #[.string s] w fun e w' => ∃ sb sa, e = .returned (rpcRes ⟨t / 8, 5, le 4 (bs.drop c), [], c + 4⟩ sb sa) ∧ Spells sb [] ∧ sa.size = c + 4 ∧ Kept w.heap.size w w' := by
  have hsh2 : 4 ≤ s.size - c := by rw [hs.size]; exact hsh
  have ht64 : t < 18446744073709551616 := (getv_bound (by omega) hs.lt hg).2.2.2
  have HG : Hid (getv bs 0 = some (t, c)) := hg
  clear hg
  have hsz : s.size = bs.length := hs.size
  have HSZ : Hid (s.size = bs.length) := hsz
  have hcs : c ≤ s.size := by omega
  have hsl : s.size ≤ 100000 := by omega
  have hrest : Spells (s.extract c s.size) (bs.drop c) := hs.rest hcs
  have hrl : (s.extract c s.size).size = s.size - c := by rw [ByteArray.size_extract]; omega
  have hdl : (bs.drop c).length ≤ 1000000 := by simp; omega
  clear hsz
  have h8' : (t : Int) % 8 = 5 := by omega
  go_enter Tryd.func20, Tryd.ntmps20
  go_wp2_with fail
  refine (rget_some _ hs (by omega) HG.out).mono ?_
  rintro e w1 ⟨rfl, rfl⟩
  go_wp2
  have hrl2 : 4 ≤ (s.extract c s.size).size := by omega
  have hrl3 : (s.extract c s.size).size ≤ 100000 := by omega
  clear hrl
  have HR : Hid (Spells (s.extract c s.size) (bs.drop c)) := hrest
  clear hrest
  generalize hL : s.extract c s.size = l at *
  clear hL
  go_loopw [78] (fun v wr => ∃ j acc : Nat, j ≤ 4 ∧ v = .int .i64 j ∧ Hid (acc = le j (bs.drop c)) ∧ Two w wr ((t : Int) / 8) 5 acc) (fun v _ => 4 - (intOf v).toNat)
  case atStart => exact ⟨0, 0, Nat.zero_le _, rfl, rfl, two_start _ _ _ _⟩
  case round =>
    obtain ⟨j, acc, hj, rfl, hacc, hT⟩ := hrel
    by_cases hlt : j < 4
    · have hjl : j < l.size := by omega
      obtain ⟨x, hx⟩ : ∃ x, x = (bs.drop c).getD j 0 := ⟨_, rfl⟩
      have hget : (l[j]'hjl).toNat = x := by rw [HR.out.get j hjl, hx]
      have hjb : j < (bs.drop c).length := by rw [← HR.out.size]; exact hjl
      have hx256 : x < 256 := by
        rw [hx]; simp only [List.getD_eq_getElem?_getD, List.getElem?_eq_getElem hjb, Option.getD_some]; exact HR.out.lt _ (List.getElem_mem hjb)
      have hal : acc < 256 ^ j := by rw [hacc.out]; exact le_lt j _ HR.out.lt
      have HO : Hid (IntKind.u64.wrap ((acc : Int) + IntKind.u64.wrap ((x : Int) * 2 ^ (8 * j))) = ((acc + 256 ^ j * x : Nat) : Int)) := add_fix hx256 hal (by omega)
      have HL : Hid (acc + 256 ^ j * x = le (j + 1) (bs.drop c)) := by
        show acc + 256 ^ j * x = le (j + 1) (bs.drop c)
        rw [le_succ j _ hjb, ← hx, ← hacc.out]
      have p2 := hT.p2
      have fp := hT.fp 2
      have HT : Hid (Two w (wr.setCell ⟨w.heap.size + 1, 2, none⟩ (.int .u64 ((acc + 256 ^ j * x : Nat) : Int))).drew ((t : Int) / 8) 5 (acc + 256 ^ j * x)) := hT.step _
      clear hal hx hacc hjb hT hdl
      go_wp2
      go_region
      go_wp2
      refine ⟨⟨j + 1, acc + 256 ^ j * x, by omega, by go_num, HL, ?_⟩, ?_⟩
      · rw [HO.out]; exact HT.out
      · simp [intOf]; omega
    · obtain rfl : j = 4 := by omega
      obtain ⟨HK, sz, z0, z1, z2, z3, z4, p0, p1, p2, p3, p4, fz, fp⟩ := hT
      have HKH : Hid (Kept w.heap.size w wr) := HK
      have fz0 := fz 0
      have fz1 := fz 1
      have fz2 := fz 2
      have fz3 := fz 3
      have fz4 := fz 4
      have fp4 := fp 4
      have hse : (s.extract 0 (c + 4)).size = c + 4 := by rw [ByteArray.size_extract]; omega
      clear HK sz fz fp hdl HR
      go_wp2
      refine bodyPost_ret (v := .tuple #[.agg #[.int .i64 ((t : Int) / 8), .int .i64 5, .int .u64 (acc : Int), .string ⟨#[]⟩, .string (s.extract 0 (c + 4))], .int .i64 0]) (by simp [results, Tryd.results20, go_sem, z0, z1, z2, z3, z4]) rfl ⟨⟨#[]⟩, s.extract 0 (c + 4), by simp [rpcRes, ← hacc.out], spells_nil, hse, ?_⟩
      exact Kept.setCell (Kept.setCell (Kept.setCell (Kept.setCell (Kept.setCell (Kept.setCell HKH.out (by simp) _) (by simp) _) (by simp) _) (by simp) _) (by simp) _) (by simp) _

end Go.Proofs.YticgkjcdhmejcaaDoor

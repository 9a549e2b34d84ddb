/- getFixed: a number of so many bytes. -/
import Derived.Test.YticgkjcdhmejcaaDoorTag
namespace Go.Proofs.YticgkjcdhmejcaaDoor
open Go.RowKit

theorem le_succ (k : Nat) (bs : List Nat) (h : k < bs.length) : le (k + 1) bs = le k bs + 256 ^ k * bs.getD k 0 := by
  induction k generalizing bs with
  | zero => cases bs with | nil => simp at h | cons b r => simp [le]
  | succ k ih =>
    cases bs with
    | nil => simp at h
    | cons b r =>
      have := ih r (by simp at h; omega)
      rw [le, this, le, Nat.mul_add, Nat.pow_succ, Nat.mul_comm (256 ^ k) 256, Nat.mul_assoc]
      simp only [List.getD_cons_succ]
      omega

/-- What 'n |= uint64(b[i]) << (8*i)' comes to. -/
theorem or_fix {k acc x : Nat} (hx : x < 256) (hacc : acc < 256 ^ k) (hk : k < 8) :
    bits .or .u64 (acc : Int) (IntKind.u64.wrap ((x : Int) * 2 ^ (8 * k))) = ((acc + 256 ^ k * x : Nat) : Int) := by
  have e8 : (256 : Nat) ^ k = 2 ^ (8 * k) := by rw [Nat.pow_mul]
  have hlt : 2 ^ (8 * k) * x < 2 ^ 64 := by
    have h1 : 2 ^ (8 * k) * x < 2 ^ (8 * k) * 2 ^ 8 := Nat.mul_lt_mul_of_pos_left (by omega) (Nat.two_pow_pos _)
    have h2 : 2 ^ (8 * k) * 2 ^ 8 = 2 ^ (8 * k + 8) := (Nat.pow_add 2 (8 * k) 8).symm
    have h3 : 2 ^ (8 * k + 8) ≤ 2 ^ 64 := Nat.pow_le_pow_right (by decide) (by omega)
    omega
  have e2 : ((x : Int) * 2 ^ (8 * k)) = ((2 ^ (8 * k) * x : Nat) : Int) := by
    rw [Int.natCast_mul, Int.natCast_pow, Int.mul_comm]; rfl
  have e3 : IntKind.u64.wrap ((2 ^ (8 * k) * x : Nat) : Int) = ((2 ^ (8 * k) * x : Nat) : Int) := by
    rw [IntKind.wrap_u64]; omega
  rw [e2, e3, e8]
  rw [e8] at hacc
  have hk64 : 2 ^ (8 * k) ≤ 2 ^ 64 := Nat.pow_le_pow_right (by decide) (by omega)
  rw [bits_join_low .u64 64 (by decide) wraps_u64 (8 * k) (acc : Int) _ (by omega) (by exact_mod_cast hacc) (by omega) (by omega) (by
    have : (2 ^ (8 * k) * x) % 2 ^ (8 * k) = 0 := Nat.mul_mod_right _ _
    exact_mod_cast this) (by exact_mod_cast hlt)]
  exact (Int.natCast_add _ _).symm

set_option maxHeartbeats 400000 in
theorem fixed_short (a : Option Addr) (len cap k : Nat) (w : World) (h : len < k) :
    Calls Tryd.prog 32 #[.slice a len cap, .int .i64 (k : Int)] w fun e w' => e = .returned (.tuple #[.int .u64 0, .int .i64 0, .iface 24 (.int .i64 3)]) ∧ w' = w := by
  have h1 : (len : Int) < (k : Int) := by omega
  go_enter Tryd.func32, Tryd.ntmps32
  go_wp2
  go_ret3
  exact ⟨rfl, rfl⟩

theorem fix_ret {a : Int} {n : Nat} {k : Int} (h : a = (n : Int)) : Ending.returned (.tuple #[.int .u64 a, .int .i64 k, .nilIface]) = .returned (.tuple #[.int .u64 (n : Int), .int .i64 k, .nilIface]) := by rw [h]

set_option maxHeartbeats 1000000 in
set_option maxRecDepth 100000 in
theorem fixed_long (b off cap k : Nat) (bs : List Nat) (w : World) (h : Reads w (.slice (some ⟨b, off, none⟩) bs.length cap) b off cap bs) (hk : k ≤ bs.length) (h8 : k ≤ 8) :
    Calls Tryd.prog 32 #[.slice (some ⟨b, off, none⟩) bs.length cap, .int .i64 (k : Int)] w fun e w' => e = .returned (.tuple #[.int .u64 (le k bs : Int), .int .i64 (k : Int), .nilIface]) ∧ w' = w := by
  have hlen := h.le
  have hcells := h.cell
  have hlts := h.lt
  unfold maxLen at hlen
  have h1 : (k : Int) ≤ (bs.length : Int) := by omega
  clear h
  go_enter Tryd.func32, Tryd.ntmps32
  go_wp2
  go_loop [7, 15] (fun n i => ∃ j acc : Nat, j ≤ k ∧ i = .int .i64 j ∧ n = .int .u64 acc ∧ Hid (acc = le j bs)) (fun _ i => k - (intOf i).toNat)
  case atStart => exact ⟨0, 0, Nat.zero_le _, rfl, rfl, by show 0 = le 0 bs; rfl⟩
  case round =>
    obtain ⟨j, acc, hj, rfl, rfl, hacc⟩ := hrel
    by_cases hlt : j < k
    · obtain ⟨x, hx⟩ : ∃ x, x = bs.getD j 0 := ⟨_, rfl⟩
      have hcell : w.cell? ⟨b, off + j, none⟩ = some (.int .u8 (x : Int)) := by rw [hx]; exact hcells j (by omega)
      have hjl : j < bs.length := by omega
      have hx256 : x < 256 := by
        rw [hx]; simp only [List.getD_eq_getElem?_getD, List.getElem?_eq_getElem hjl, Option.getD_some]; exact hlts _ (List.getElem_mem hjl)
      have hal : acc < 256 ^ j := by rw [hacc.out]; exact le_lt j bs hlts
      have HO : Hid (bits .or .u64 (acc : Int) (IntKind.u64.wrap ((x : Int) * 2 ^ (8 * j))) = ((acc + 256 ^ j * x : Nat) : Int)) := or_fix hx256 hal (by omega)
      have HL : Hid (acc + 256 ^ j * x = le (j + 1) bs) := by
        show acc + 256 ^ j * x = le (j + 1) bs
        rw [le_succ j bs hjl, ← hx, ← hacc.out]
      clear hcells hlts hal hx hacc
      go_wp2
      go_round
      case rel => exact ⟨j + 1, acc + 256 ^ j * x, by omega, by go_num, by rw [HO.out], HL⟩
      case measure => simp [intOf]; omega
    · obtain rfl : j = k := by omega
      clear hcells hlts
      go_wp2
      go_ret3
      exact ⟨fix_ret (by rw [hacc.out]), rfl⟩
end Go.Proofs.YticgkjcdhmejcaaDoor

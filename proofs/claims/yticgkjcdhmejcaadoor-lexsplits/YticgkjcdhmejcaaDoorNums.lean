/- What the functions that only reckon return: bits.Len64, Size, Zig, Zag. -/
import Derived.Test.YticgkjcdhmejcaaDoorProg
import Derived.Test.YticgkjcdhmejcaaDoorPlain
import Derived.WalkKit
import Derived.Lib.Tables
import Derived.Outline
namespace Go.Proofs.YticgkjcdhmejcaaDoor
open Go.RowKit

theorem tab_fin : ∀ n : Fin 256, ((Lib.len8tab[n.val]?).getD 0).toNat ≤ 8 ∧ n.val < 2 ^ ((Lib.len8tab[n.val]?).getD 0).toNat ∧
    (0 < ((Lib.len8tab[n.val]?).getD 0).toNat → 2 ^ (((Lib.len8tab[n.val]?).getD 0).toNat - 1) ≤ n.val) := by decide +kernel

theorem tab_of (q : Nat) (h : q < Lib.len8tab.size) : (Lib.len8tab[q]).toNat ≤ 8 ∧ IsLen q (Lib.len8tab[q]).toNat := by
  have hs := Lib.len8tab_size
  have t := tab_fin ⟨q, by omega⟩
  have e : (Lib.len8tab[q]?).getD 0 = Lib.len8tab[q] := by simp [h]
  simp only [e] at t
  exact ⟨t.1, t.2.1, t.2.2⟩

/-- How a way of Len64 ends: s bits shifted out, the table's byte added. -/
theorem len_end (x : Int) (s q : Nat) (y : Int) (hy : y = (q : Int)) (hq : x.toNat / 2 ^ s = q) (hp : 0 < s → 0 < q) (hs : s ≤ 56) (h : y.toNat < Lib.len8tab.size) :
    ∃ L : Nat, wrap64 ((s : Int) + wrap64 ((Lib.len8tab[y.toNat]).toNat : Int)) = (L : Int) ∧ IsLen x.toNat L ∧ L ≤ 64 := by
  subst hy
  simp only [Int.toNat_natCast] at h ⊢
  obtain ⟨a, b⟩ := tab_of q h
  generalize (Lib.len8tab[q]).toNat = l at *
  refine ⟨s + l, ?_, ?_, by omega⟩
  · rw [IntWalk.wrap64_in (l : Int) ⟨by omega, by omega⟩, IntWalk.wrap64_in _ ⟨by omega, by omega⟩]; omega
  · rcases Nat.eq_zero_or_pos l with h1 | h1
    · subst h1
      have h2 : q < 1 := by simpa using b.1
      have hs0 : s = 0 := by
        rcases Nat.eq_zero_or_pos s with h3 | h3
        · exact h3
        · have := hp h3; omega
      subst hs0
      have : x.toNat = q := by simpa using hq
      rw [this]; exact b
    · exact isLen_shift hq b h1

theorem len_end0 (x : Int) (q : Nat) (hy : x = (q : Int)) (h : x.toNat < Lib.len8tab.size) :
    ∃ L : Nat, wrap64 (wrap64 ((Lib.len8tab[x.toNat]).toNat : Int)) = (L : Int) ∧ IsLen x.toNat L ∧ L ≤ 64 := by
  have := len_end x 0 q x hy (by subst hy; simp) (by omega) (by omega) h
  simpa using this

theorem ret_len {a : Int} {x : Int} {w : World} (h : ∃ L : Nat, a = (L : Int) ∧ IsLen x.toNat L ∧ L ≤ 64) :
    ∃ L : Nat, Ending.returned (.int .i64 a) = .returned (.int .i64 (L : Int)) ∧ IsLen x.toNat L ∧ L ≤ 64 ∧ w = w := by
  obtain ⟨L, rfl, h1, h2⟩ := h
  exact ⟨L, rfl, h1, h2, rfl⟩

set_option maxHeartbeats 1000000 in
set_option maxRecDepth 100000 in
theorem len64_any (x : Int) (w : World) (h0 : 0 ≤ x) (h1 : x ≤ 18446744073709551615) :
    Calls Tryd.prog 30 #[.int .u64 x] w fun e w' => ∃ L : Nat, e = .returned (.int .i64 (L : Int)) ∧ IsLen x.toNat L ∧ L ≤ 64 ∧ w' = w := by
  have hsz := Lib.len8tab_size
  go_enter Tryd.func30, Tryd.ntmps30
  go_wp2
  all_goals go_ret
  all_goals refine ret_len ?_
  all_goals first
    | exact len_end x 56 (x.toNat / 2 ^ 56) _ (by omega) rfl (by omega) (by omega) _
    | exact len_end x 48 (x.toNat / 2 ^ 48) _ (by omega) rfl (by omega) (by omega) _
    | exact len_end x 40 (x.toNat / 2 ^ 40) _ (by omega) rfl (by omega) (by omega) _
    | exact len_end x 32 (x.toNat / 2 ^ 32) _ (by omega) rfl (by omega) (by omega) _
    | exact len_end x 24 (x.toNat / 2 ^ 24) _ (by omega) rfl (by omega) (by omega) _
    | exact len_end x 16 (x.toNat / 2 ^ 16) _ (by omega) rfl (by omega) (by omega) _
    | exact len_end x 8 (x.toNat / 2 ^ 8) _ (by omega) rfl (by omega) (by omega) _
    | exact len_end0 x x.toNat (by omega) _
def zig (z : Int) : Int := if 0 ≤ z then 2 * z else -2 * z - 1
def zag (n : Int) : Int := if n % 2 = 0 then n / 2 else -1 - n / 2
theorem zag_zig (z : Int) : zag (zig z) = z := by unfold zag zig; split <;> split <;> omega
theorem zig_zag (n : Int) (h : 0 ≤ n) : zig (zag n) = n := by unfold zag zig; split <;> split <;> omega
theorem zig_range (z : Int) (h0 : -9223372036854775808 ≤ z) (h1 : z ≤ 9223372036854775807) : 0 ≤ zig z ∧ zig z ≤ 18446744073709551615 := by unfold zig; split <;> omega
theorem zag_range (n : Int) (h0 : 0 ≤ n) (h1 : n ≤ 18446744073709551615) : -9223372036854775808 ≤ zag n ∧ zag n ≤ 9223372036854775807 := by unfold zag; split <;> omega
theorem ret_int {k : IntKind} {a b : Int} (h : a = b) : Ending.returned (.int k a) = .returned (.int k b) := by rw [h]

set_option maxHeartbeats 400000 in
theorem size_any (n : Nat) (w : World) (h : n < 18446744073709551616) :
    Calls Tryd.prog 9 #[.int .u64 (n : Int)] w fun e w' => ∃ S : Nat, e = .returned (.int .i64 (S : Int)) ∧ IsSize n S ∧ w' = w := by
  have ho := or_one n h
  go_enter Tryd.func9, Tryd.ntmps9
  go_wp2_with fail
  refine (len64_any _ _ (by omega) (by omega)).mono ?_
  rintro e w' ⟨L, rfl, hL, hm, rfl⟩
  have hI : IsLen (2 * (n / 2) + 1) L := by
    have e1 : (2 * ((n : Int) / 2) + 1).toNat = 2 * (n / 2) + 1 := by omega
    rw [e1] at hL; exact hL
  clear hL ho
  go_wp2
  go_ret
  exact ⟨(L + 6) / 7, ret_int (by omega), isSize_of hI hm, rfl⟩

set_option maxHeartbeats 400000 in
theorem zig_any (z : Int) (w : World) (h0 : -9223372036854775808 ≤ z) (h1 : z ≤ 9223372036854775807) :
    Calls Tryd.prog 16 #[.int .i64 z] w fun e w' => e = .returned (.int .u64 (zig z)) ∧ w' = w := by
  by_cases hz : 0 ≤ z
  · go_enter Tryd.func16, Tryd.ntmps16
    go_wp2
    go_ret
    exact ⟨ret_int (by unfold zig; rw [if_pos hz]; omega), rfl⟩
  · go_enter Tryd.func16, Tryd.ntmps16
    go_wp2
    go_ret
    exact ⟨ret_int (by unfold zig; rw [if_neg (by omega)]; omega), rfl⟩

set_option maxHeartbeats 400000 in
theorem zag_any (n : Int) (w : World) (h0 : 0 ≤ n) (h1 : n ≤ 18446744073709551615) :
    Calls Tryd.prog 18 #[.int .u64 n] w fun e w' => e = .returned (.int .i64 (zag n)) ∧ w' = w := by
  by_cases hz : n % 2 = 0
  · go_enter Tryd.func18, Tryd.ntmps18
    go_wp2
    go_ret
    exact ⟨ret_int (by unfold zag; rw [if_pos hz]), rfl⟩
  · go_enter Tryd.func18, Tryd.ntmps18
    go_wp2
    go_ret
    exact ⟨ret_int (by unfold zag; rw [if_neg hz]), rfl⟩
end Go.Proofs.YticgkjcdhmejcaaDoor

/- The walk of WireBack. -/
import Derived.Test.YticgkjcdhmejcaaFact
namespace Go.Proofs.Yticgkjcdhmejcaa
open Go.RowKit

theorem wrap64_range (x : Int) : -9223372036854775808 ≤ wrap64 x ∧ wrap64 x ≤ 9223372036854775807 := by unfold wrap64; omega

theorem pick_num (a : Int) (n : Nat) (hn : 0 < n) (hm : n ≤ 1000000) : ∃ c : Nat, wrap64 ((IntKind.u64.wrap a).tmod (n : Int)) = (c : Int) ∧ c < n := by
  have h0 : 0 ≤ IntKind.u64.wrap a := by rw [IntKind.wrap_u64]; omega
  obtain ⟨u, hu⟩ := Int.eq_ofNat_of_zero_le h0
  rw [hu]
  have e1 : ((u : Int)).tmod (n : Int) = ((u % n : Nat) : Int) := by rw [Int.tmod_eq_emod_of_nonneg (by omega)]; exact (Int.natCast_emod u n).symm
  have h2 : u % n < n := Nat.mod_lt _ hn
  rw [e1]
  exact ⟨u % n, IntWalk.wrap64_in _ ⟨by omega, by omega⟩, h2⟩

set_option maxHeartbeats 400000 in
theorem pick_any (a : Int) (n : Nat) (w : World) (hn : 0 < n) (hm : n ≤ 1000000) :
    Calls Try.prog 10 #[.int .i64 a, .int .i64 (n : Int)] w fun e w' => ∃ c : Nat, e = .returned (.int .i64 (c : Int)) ∧ c < n ∧ w' = w := by
  go_enter Try.func10, Try.ntmps10
  go_wp2
  go_ret
  obtain ⟨c, h2, h3⟩ := pick_num a n hn hm
  exact ⟨c, ret_int h2, h3, rfl⟩

set_option maxHeartbeats 2000000 in
set_option maxRecDepth 100000 in
theorem wireBack_small (n : Nat) (a1 : Option Addr) (cap1 : Nat) (bs : List Nat) (c : Int) (w : World) (hn : n < 18446744073709551616) (hbs : ReadsOr w (.slice a1 bs.length cap1) bs) (hlen : bs.length ≤ 200) :
    Calls Try.prog 3 #[.int .u64 (n : Int), .slice a1 bs.length cap1, .int .i64 c] w fun e w' => e = .returned (.bool true) ∧ Kept w.heap.size w w' := by
  obtain ⟨i0, hi, hz0, hz1, hz2⟩ := info_parts info_u8
  go_enter Try.func3, Try.ntmps3
  go_wp2_with fail
  refine (fact_any _).mono ?_
  rintro e w1 ⟨rfl, hk1⟩
  go_wp2_with fail
  refine (put_nil n n _ rfl hn).mono ?_
  rintro e w2 ⟨S, g, o, cap, rfl, hS, hr, hg, hg1, hcap, hk2⟩
  have hS1 := hS.1
  have hS2 := hS.2.1
  have hl := enc_length hS
  go_wp2_with (at_builtin; refine wpList_append_upon _ rfl (.tmp 23) (.tmp 24) 23 23 rfl (came_nil _ (some ⟨w2.heap.size, 0, none⟩) w2.heap.size 0) i0 (.int .u8 0) 1 Try.underlying23 hi hz0 hz1 hz2 rfl rfl (Upon.start (came_nil _ (some ⟨w2.heap.size, 0, none⟩) w2.heap.size 0)) _ (enc n S).length (cellsOf (enc n S)) rfl ?hsrc (by unfold maxLen; omega) (by omega) ?_)
  case hsrc => exact (hr.kept (Kept.alloc (Kept.refl _ _) (Nat.le_refl _) _) hg1).src Try.underlying23
  intro v1 w3 hup1
  have hk3 : Kept (w2.heap.size + 1) (w2.alloc (.cells #[] 5)) w3 := Kept.upon hup1 (by simp) (.inl rfl)
  have hbs3 : ReadsOr w3 (.slice a1 bs.length cap1) bs := by
    refine ((((hbs.kept hk1).kept (hk2.mono (Nat.le_refl _))).kept (Kept.alloc (Kept.refl _ _) (Nat.le_refl _) _))).kept (by simpa using hk3)
  go_wp2_with (at_builtin; refine wpList_append_upon _ rfl (.tmp 25) (.tmp 26) 23 23 rfl (came_nil _ (some ⟨w2.heap.size, 0, none⟩) w2.heap.size 0) i0 (.int .u8 0) 1 Try.underlying23 hi hz0 hz1 hz2 rfl rfl hup1 _ bs.length (cellsOf bs) rfl (hbs3.src Try.underlying23) (by unfold maxLen; omega) (by omega) ?_)
  intro v2 w4 hup2
  have hk4 : Kept (w2.heap.size + 1) (w2.alloc (.cells #[] 5)) w4 := Kept.upon hup2 (by simp) (.inl rfl)
  obtain ⟨g2, o2, cap2, hR, _, _⟩ := Upon.reads (os := []) (ks := enc n S ++ bs) (came_nil _ _ _ _) (by rw [cellsOf_append]; exact hup2) (Nat.zero_le _) (.inr (by omega)) (by
    intro x hx
    rcases List.mem_append.1 hx with h | h
    · cases h
    · rcases List.mem_append.1 h with h | h
      · exact enc_lt hS x h
      · exact hbs.lt x h)
  have hgv : gvRes (getv ([] ++ (enc n S ++ bs)) 0) = .returned (.tuple #[.int .u64 (n : Int), .int .i64 (S : Int), .nilIface]) := by
    rw [List.nil_append, back hS hn]; rfl
  have HG : Hid _ := hgv
  have hk14 : Kept w2.heap.size w2 w4 := (Kept.alloc (Kept.refl _ _) (Nat.le_refl _) _).trans (hk4.mono (by omega))
  have hr4 := hr.kept hk14 hg1
  have HK : Kept w.heap.size w w4 := (hk1.trans (hk2.mono hk1.size)).trans (hk14.mono (Nat.le_trans hk1.size hk2.size))
  clear hup1 hup2 hk3 hbs3 hk4 hgv hr hk14 hk1 hk2 hbs
  go_wp2_with fail
  refine (get_is hR HG.out).mono ?_
  rintro e w5 ⟨rfl, rfl⟩
  clear HG hR
  go_wp2_with fail
  refine (size_any n _ hn).mono ?_
  rintro e w6 ⟨S', rfl, hS', rfl⟩
  obtain rfl : S = S' := isSize_unique hS hS'
  clear hS'
  go_wp2_with fail
  refine (pick_any c S _ (by omega) (by omega)).mono ?_
  rintro e w7 ⟨k, rfl, hk, rfl⟩
  have hR : Reads w7 (.slice (some ⟨g, o, none⟩) k cap) g o cap ((enc n S).take k) := hr4.take (by omega)
  have HG : Hid (gvRes (getv ((enc n S).take k) 0) = .returned (.tuple #[.int .u64 0, .int .i64 0, .iface 57 (.int .i64 3)])) := by
    show gvRes (getv ((enc n S).take k) 0) = _
    rw [back_cut hS hk]; rfl
  clear hr4 hl
  go_wp2_with fail
  refine (get_is hR HG.out).mono ?_
  rintro e w8 ⟨rfl, rfl⟩
  clear HG hR
  go_wp2_with fail
  obtain ⟨hzl, hzu⟩ := wrap64_range (n : Int)
  generalize wrap64 (n : Int) = z at *
  have hzr := zig_range z hzl hzu
  have hnr := zag_range (n : Int) (by omega) (by omega)
  refine (zig_any z _ hzl hzu).mono ?_
  rintro e w9 ⟨rfl, rfl⟩
  go_wp2_with fail
  refine (zag_any (zig z) _ hzr.1 hzr.2).mono ?_
  rintro e w10 ⟨rfl, rfl⟩
  rw [zag_zig]
  go_wp2_with fail
  refine (zag_any (n : Int) _ (by omega) (by omega)).mono ?_
  rintro e w11 ⟨rfl, rfl⟩
  go_wp2_with fail
  refine (zig_any (zag (n : Int)) _ hnr.1 hnr.2).mono ?_
  rintro e w12 ⟨rfl, rfl⟩
  rw [zig_zag (n : Int) (by omega)]
  have HZ : Hid (-9223372036854775808 ≤ z ∧ z ≤ 9223372036854775807) := ⟨hzl, hzu⟩
  have HW : Hid (Kept w.heap.size w w12) := HK
  clear hzr hnr hn hzl hzu hlen hS hS1 hS2 hk hcap hg hg1 hi hz0 hz1 hz2 HK
  by_cases h64 : z < -64
  · go_wp2
    go_ret
    exact ⟨rfl, HW⟩
  · have d1 : decide (z < -64) = false := by simpa using h64
    by_cases h65 : 64 ≤ z
    · have d2 : decide (64 ≤ z) = true := by simpa using h65
      clear h64 h65
      go_wp2
      go_ret
      exact ⟨rfl, HW⟩
    · have d2 : decide (64 ≤ z) = false := by simpa using h65
      have hsm : zig z < 128 := by unfold zig; split <;> omega
      have d3 : decide (zig z < 128) = true := by simpa using hsm
      clear h64 h65 hsm
      go_wp2_with fail
      refine (zig_any z _ HZ.1 HZ.2).mono ?_
      rintro e w13 ⟨rfl, rfl⟩
      go_wp2
      go_ret
      exact ⟨rfl, HW⟩

set_option maxHeartbeats 400000 in
theorem wireBack_big (n : Int) (a1 : Option Addr) (len1 cap1 : Nat) (c : Int) (w : World) (hlen : 200 < len1) :
    Calls Try.prog 3 #[.int .u64 n, .slice a1 len1 cap1, .int .i64 c] w fun e w' => e = .returned (.bool true) ∧ Kept w.heap.size w w' := by
  have h : (200 : Int) < (len1 : Int) := by omega
  go_enter Try.func3, Try.ntmps3
  go_wp2
  go_ret
  exact ⟨rfl, Kept.refl _ _⟩
end Go.Proofs.Yticgkjcdhmejcaa

/- getTag, getFixed: what they return. -/
import Derived.Test.YticgkjcdhmejcaaDoorPieces
import Derived.Test.YticgkjcdhmejcaaDoorOr
namespace Go.Proofs.YticgkjcdhmejcaaDoor
open Go.RowKit

theorem get_or {w : World} {v : Value} {bs : List Nat} (h : ReadsOr w v bs) : Calls Tryd.prog 7 #[v] w fun e w' => e = gvRes (getv bs 0) ∧ w' = w := by
  rcases h with ⟨rfl, a, cap, rfl⟩ | ⟨b, off, cap, h, _, _⟩
  · exact get_nil a cap w
  · exact get_reads h

theorem get_or_none {w : World} {v : Value} {bs : List Nat} (h : ReadsOr w v bs) (hg : getv bs 0 = none) :
    Calls Tryd.prog 7 #[v] w fun e w' => e = .returned (.tuple #[.int .u64 0, .int .i64 0, .iface 24 (.int .i64 3)]) ∧ w' = w := by
  have := get_or h
  rw [hg] at this
  exact this
theorem get_or_some {w : World} {v : Value} {bs : List Nat} {t c : Nat} (h : ReadsOr w v bs) (hg : getv bs 0 = some (t, c)) :
    Calls Tryd.prog 7 #[v] w fun e w' => e = .returned (.tuple #[.int .u64 (t : Int), .int .i64 (c : Int), .nilIface]) ∧ w' = w := by
  have := get_or h
  rw [hg] at this
  exact this

theorem and_7 (t : Nat) (h : t < 18446744073709551616) : bits .and .u64 (t : Int) 7 = (t : Int) % 8 := by
  rw [show (7 : Int) = ((7 : Nat) : Int) from rfl, bits_and_u64_nat t 7 h (by decide)]
  rw [show (7 : Nat) = 2 ^ 3 - 1 from rfl, Nat.and_two_pow_sub_one_eq_mod]
  omega

/-- What getTag returns. -/
def tagRes : Option (Nat × Nat × Nat) → Ending
  | some p => .returned (.tuple #[.int .i64 (p.1 : Int), .int .i64 (p.2.1 : Int), .int .i64 (p.2.2 : Int), .nilIface])
  | none => .returned (.tuple #[.int .i64 0, .int .i64 0, .int .i64 0, .iface 24 (.int .i64 3)])

theorem tagv_none {bs : List Nat} (h : getv bs 0 = none) : tagv bs = none := by unfold tagv; rw [h]
theorem tagv_bad {bs : List Nat} {t c : Nat} (h : getv bs 0 = some (t, c)) (h1 : ¬ (1 ≤ t / 8 ∧ t / 8 ≤ 536870911)) : tagv bs = none := by unfold tagv; rw [h]; simp only; rw [if_neg h1]
theorem tagv_good {bs : List Nat} {t c : Nat} (h : getv bs 0 = some (t, c)) (h1 : 1 ≤ t / 8 ∧ t / 8 ≤ 536870911) : tagv bs = some (t / 8, t % 8, c) := by unfold tagv; rw [h]; simp only; rw [if_pos h1]

theorem tag_ret_none {o : Option (Nat × Nat × Nat)} (h : o = none) : Ending.returned (.tuple #[.int .i64 0, .int .i64 0, .int .i64 0, .iface 24 (.int .i64 3)]) = tagRes o := by subst h; rfl
theorem tag_ret_some {o : Option (Nat × Nat × Nat)} {a b c : Int} {n f k : Nat} (h : o = some (n, f, k)) (ha : a = (n : Int)) (hb : b = (f : Int)) (hc : c = (k : Int)) :
    Ending.returned (.tuple #[.int .i64 a, .int .i64 b, .int .i64 c, .nilIface]) = tagRes o := by subst h ha hb hc; rfl

set_option maxHeartbeats 1000000 in
theorem tag_any {w : World} {v : Value} {bs : List Nat} (h : ReadsOr w v bs) : Calls Tryd.prog 31 #[v] w fun e w' => e = tagRes (tagv bs) ∧ w' = w := by
  have hlt := h.lt
  rcases hg : getv bs 0 with _ | ⟨t, c⟩
  · have HT : Hid (tagv bs = none) := tagv_none hg
    have HG : Hid (getv bs 0 = none) := hg
    clear hg hlt
    go_enter Tryd.func31, Tryd.ntmps31
    go_wp2_with fail
    refine (get_or_none h HG.out).mono ?_
    rintro e w1 ⟨rfl, rfl⟩
    go_wp2
    exact bodyPost_ret (v := .tuple #[.int .i64 0, .int .i64 0, .int .i64 0, .iface 24 (.int .i64 3)]) (by simp [results, Tryd.results31, go_sem]) rfl ⟨tag_ret_none HT.out, rfl⟩
  · have hb := getv_bound (by omega) hlt hg
    have ht : t < 18446744073709551616 := hb.2.2.2
    have hc : c ≤ 10 := by omega
    have hand := and_7 t ht
    have HG : Hid (getv bs 0 = some (t, c)) := hg
    clear hg hlt hb
    by_cases hr : 1 ≤ t / 8 ∧ t / 8 ≤ 536870911
    · have HT : Hid (tagv bs = some (t / 8, t % 8, c)) := tagv_good HG.out hr
      obtain ⟨hr1, hr2⟩ := hr
      go_enter Tryd.func31, Tryd.ntmps31
      go_wp2_with fail
      refine (get_or_some h HG.out).mono ?_
      rintro e w1 ⟨rfl, rfl⟩
      go_wp2
      exact bodyPost_ret (v := .tuple #[.int .i64 ((t : Int) / 8), .int .i64 ((t : Int) % 8), .int .i64 (c : Int), .nilIface]) (by simp [results, Tryd.results31, go_sem]) rfl ⟨tag_ret_some HT.out (by omega) (by omega) rfl, rfl⟩
    · have HT : Hid (tagv bs = none) := tagv_bad HG.out hr
      by_cases h1 : 1 ≤ t / 8
      · have h2 : 536870911 < t / 8 := by omega
        clear hr
        go_enter Tryd.func31, Tryd.ntmps31
        go_wp2_with fail
        refine (get_or_some h HG.out).mono ?_
        rintro e w1 ⟨rfl, rfl⟩
        go_wp2
        exact bodyPost_ret (v := .tuple #[.int .i64 0, .int .i64 0, .int .i64 0, .iface 24 (.int .i64 3)]) (by simp [results, Tryd.results31, go_sem]) rfl ⟨tag_ret_none HT.out, rfl⟩
      · clear hr
        go_enter Tryd.func31, Tryd.ntmps31
        go_wp2_with fail
        refine (get_or_some h HG.out).mono ?_
        rintro e w1 ⟨rfl, rfl⟩
        go_wp2
        exact bodyPost_ret (v := .tuple #[.int .i64 0, .int .i64 0, .int .i64 0, .iface 24 (.int .i64 3)]) (by simp [results, Tryd.results31, go_sem]) rfl ⟨tag_ret_none HT.out, rfl⟩
end Go.Proofs.YticgkjcdhmejcaaDoor

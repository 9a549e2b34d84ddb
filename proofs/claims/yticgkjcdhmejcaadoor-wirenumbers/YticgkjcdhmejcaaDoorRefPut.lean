/- The document's own answer: Varint, Tag, Fixed. -/
import Derived.Test.YticgkjcdhmejcaaDoorRef
import Derived.Deep.RegionWith
import Derived.Deep.DrawnRows
namespace Go.Proofs.YticgkjcdhmejcaaDoor
open Go.RowKit
set_option linter.unusedVariables false
attribute [local go_sem ↓] Go.wp_at_zero Go.wp_at_succ

theorem conv_one (x : Nat) (hx : x < 256) (W : World) (b : Nat) (h : W.cell? ⟨b, 0, none⟩ = some (.int .u8 (x : Int))) :
    (convert 22 9 (.slice (some ⟨b, 0, none⟩) 1 1)).run Tryd.prog W = .ok (.string (str [x])) W :=
  conv_or (bs := [x]) (.inr ⟨b, 0, 1, ⟨rfl, by intro y hy; simp at hy; omega, by unfold maxLen; simp, fun j hj => by
    simp at hj; subst hj; simpa using h⟩, by simp, World.block_lt_of_cell? _ _ h, by simp, by unfold maxLen; omega⟩)

theorem size_div {n S : Nat} (h : IsSize n S) (h1 : 1 < S) : IsSize (n / 128) (S - 1) := by
  obtain ⟨a, b, c, d⟩ := h
  have e : S = (S - 1) + 1 := by omega
  refine ⟨by omega, by omega, ?_, fun h2 => ?_⟩
  · rw [Nat.div_lt_iff_lt_mul (by decide)]; rw [e, Nat.pow_succ] at c; exact c
  · have := d h1
    have e2 : S - 1 = (S - 1 - 1) + 1 := by omega
    rw [e2, Nat.pow_succ] at this
    rw [Nat.le_div_iff_mul_le (by decide)]; exact this
theorem size_big {n S : Nat} (h : IsSize n S) : (1 < S ↔ 128 ≤ n) := by
  obtain ⟨a, b, c, d⟩ := h
  constructor
  · intro h1
    have := d h1
    have : 128 ^ 1 ≤ 128 ^ (S - 1) := Nat.pow_le_pow_right (by decide) (by omega)
    omega
  · intro h1
    rcases Nat.lt_or_ge 1 S with h2 | h2
    · exact h2
    · have : S = 1 := by omega
      subst this; simp at c; omega

theorem ret_str {a b : ByteArray} (h : a = b) : Ending.returned (.string a) = .returned (.string b) := by rw [h]
theorem kept_drew {w w1 : World} (B : Nat) (h : Kept B w.drew w1) : Kept B w w1 := ⟨h.os, h.output, h.size, h.block⟩
theorem kept_alloc {w w1 : World} (o : Obj) (B : Nat) (h : Kept (w.alloc o).drew.heap.size (w.alloc o).drew w1) : Kept w.heap.size w w1 :=
  (Kept.alloc (Kept.refl _ _) (Nat.le_refl _) o).trans ((kept_drew _ h).mono (by simp))

set_option maxHeartbeats 2000000 in
set_option maxRecDepth 100000 in
theorem rvar_any (S : Nat) : ∀ (n : Nat) (w : World), IsSize n S → n < 18446744073709551616 →
    Calls Tryd.prog 10 #[.int .u64 (n : Int)] w fun e w' => e = .returned (.string (str (encR (S - 1) n))) ∧ Kept w.heap.size w w' := by
  induction S with
  | zero => intro n w h; exact absurd h.1 (by omega)
  | succ S ih =>
    intro n w hS hn
    by_cases hb : 128 ≤ n
    · have h1 := (size_big hS).2 hb
      have hd := size_div hS h1
      have IH : Hid (∀ (n : Nat) (w : World), IsSize n S → n < 18446744073709551616 → Calls Tryd.prog 10 #[.int .u64 (n : Int)] w fun e w' => e = .returned (.string (str (encR (S - 1) n))) ∧ Kept w.heap.size w w') := ih
      obtain ⟨x, hx⟩ : ∃ x, x = n % 128 + 128 := ⟨_, rfl⟩
      have HX : Hid (x = n % 128 + 128) := hx
      have hx256 : x < 256 := by omega
      have hbyte : IntKind.u8.wrap (IntKind.u8.wrap ((n : Int).tmod 128) + 128) = (x : Int) := by
        rw [Int.tmod_eq_emod_of_nonneg (by omega), IntKind.wrap_u8, IntKind.wrap_u8]; omega
      obtain ⟨q, hq⟩ : ∃ q, q = n / 128 := ⟨_, rfl⟩
      have HQ : Hid (q = n / 128) := hq
      have hquo : IntKind.u64.wrap ((n : Int) / 128) = (q : Int) := by rw [IntKind.wrap_u64]; omega
      have hq64 : q < 18446744073709551616 := by omega
      have hcv := conv_one x hx256
      have HD : Hid (IsSize q S) := by rw [hq]; exact hd
      have z1 : (str [x]).size = 1 := by rw [str_size]; rfl
      have z2 : (str (encR (S - 1) q)).size = S := by rw [str_size, encR_length]; omega
      have hS10 : S ≤ 10 := by have := hS.2.1; omega
      clear ih hx hd hq
      go_enter Tryd.func10, Tryd.ntmps10
      go_wp2
      go_region_with (go_at_call 10; refine (IH.out q _ HD.out hq64).mono ?_; rintro e w1 ⟨rfl, hk⟩; try (have hc1 : w1.cell? ⟨w.heap.size, 0, none⟩ = some (.int .u8 (x : Int)) := by rw [hk.cell (p := ⟨w.heap.size, 0, none⟩) (by simp)]; simp))
      all_goals
        go_wp2
        go_ret
        refine ⟨ret_str ?_, ?_⟩
        · rw [← str_app, Nat.add_sub_cancel, show encR S n = (n % 128 + 128) :: encR (S - 1) (n / 128) from by
            have e : S = (S - 1) + 1 := by omega
            conv => lhs; rw [e]
            rfl, ← HX.out, ← HQ.out]
          rfl
        · first
            | exact Kept.alloc (B := w.heap.size) (kept_drew _ hk) hk.size _
            | exact kept_alloc _ 0 hk
    · have hS1 : S = 0 := by
        have := hS.1
        have h2 := (size_big hS)
        rcases Nat.lt_or_ge 1 (S + 1) with h3 | h3
        · exact absurd (h2.1 h3) hb
        · omega
      subst hS1
      have hcv := conv_one n (by omega)
      clear ih
      go_enter Tryd.func10, Tryd.ntmps10
      go_wp2
      go_ret
      exact ⟨rfl, Kept.alloc (Kept.refl _ _) (Nat.le_refl _) _⟩

/-- Varint, by the number of bytes. -/
theorem rvar_at {n S : Nat} {x : Int} (w : World) (hS : IsSize n S) (hx : x = (n : Int)) (hn : n < 18446744073709551616) :
    Calls Tryd.prog 10 #[.int .u64 x] w fun e w' => e = .returned (.string (str (enc n S))) ∧ Kept w.heap.size w w' := by
  subst hx; rw [enc_eq]; exact rvar_any S n w hS hn
end Go.Proofs.YticgkjcdhmejcaaDoor

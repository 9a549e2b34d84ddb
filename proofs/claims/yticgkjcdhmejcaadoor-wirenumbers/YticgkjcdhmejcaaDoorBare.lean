/- api.Tell, plain.Place, is, bare: of nil, and of ErrForm. -/
import Derived.Test.YticgkjcdhmejcaaDoorAsHit
import Derived.Outline
namespace Go.Proofs.YticgkjcdhmejcaaDoor
open Go.RowKit Go.Extern.Stop Go.Stop Go.Extern
set_option linter.unusedVariables false

theorem Laid.pos {w : World} (h : Laid w) : 0 < w.heap.size := by
  rcases Nat.eq_zero_or_pos w.heap.size with h0 | h1
  · unfold Laid at h; simp [World.cell?, h0] at h
  · exact h1
theorem Laid.kept {w w' : World} (h : Laid w) (k : Kept w.heap.size w w') : Laid w' := by
  unfold Laid; rw [k.cell (p := ⟨0, 0, none⟩) h.pos]; exact h

theorem tell_nil (w : World) : Calls Tryd.prog 51 #[.nilIface] w fun e w' => e = .returned (.int .i64 0) ∧ w' = w := by
  go_enter Tryd.func51, Tryd.ntmps51
  go_wp2
  go_ret
  exact ⟨rfl, rfl⟩

set_option maxHeartbeats 1000000 in
theorem tell_err (x : Int) (w : World) (hL : Laid w) : Calls Tryd.prog 51 #[.iface 24 (.int .i64 x)] w fun e w' => e = .returned (.int .i64 x) ∧ Kept w.heap.size w w' := by
  have HL := hL.kept (Kept.alloc (Kept.refl _ _) (Nat.le_refl _) (.cells #[.int .i64 0] 24))
  go_enter Tryd.func51, Tryd.ntmps51
  go_wp2_with fail
  refine (as_hit ⟨w.heap.size, 0, none⟩ x (.int .i64 0) _ HL (by simp) (by simp)).mono ?_
  rintro e w' ⟨rfl, w1, hk, rfl⟩
  have hc : w1.cell? ⟨w.heap.size, 0, none⟩ = some (.int .i64 0) := by rw [hk.cell (by simp)]; simp
  have hs : w.heap.size + 1 ≤ w1.heap.size := by have := hk.size; simpa using this
  have HK : Kept w.heap.size w (w1.setCell ⟨w.heap.size, 0, none⟩ (.int .i64 x)) := Kept.setCell ((Kept.alloc (Kept.refl _ _) (Nat.le_refl _) _).trans (hk.mono (by simp))) (by simp) _
  clear hk
  go_wp2
  go_ret
  exact ⟨rfl, HK⟩

theorem place_nil (w : World) : Calls Tryd.prog 38 #[.nilIface] w fun e w' => e = .returned (.tuple #[.int .i64 0, .int .i64 (-1)]) ∧ w' = w := by
  go_enter Tryd.func38, Tryd.ntmps38
  go_wp2_with fail
  refine (tell_nil _).mono ?_
  rintro e w' ⟨rfl, rfl⟩
  go_wp2_with fail
  refine wp_loop_rounds 1 ?_
  rw [rounds_succ]
  go_wp2
  go_ret2
  exact ⟨rfl, rfl⟩

theorem no_at (v : Value) (w : World) : (Instr.typeAssert (.iface 24 v) 28 91 true).run Tryd.prog w = .ok (.tuple #[.pointer none, .bool false]) w := by kernel_rfl
theorem no_unwrap (v : Value) (w : World) : (Instr.typeAssert (.iface 24 v) 28 94 true).run Tryd.prog w = .ok (.tuple #[.nilIface, .bool false]) w :=
  run_typeAssert_lacksB Tryd.underlying94 (by kernel_rfl) (by kernel_rfl) v 28 w

set_option maxHeartbeats 1000000 in
set_option maxRecDepth 100000 in
theorem place_err (x : Int) (w : World) (hL : Laid w) : Calls Tryd.prog 38 #[.iface 24 (.int .i64 x)] w fun e w' => e = .returned (.tuple #[.int .i64 x, .int .i64 (-1)]) ∧ Kept w.heap.size w w' := by
  have hA := no_at
  have hU := no_unwrap
  go_enter Tryd.func38, Tryd.ntmps38
  go_wp2_with fail
  refine (tell_err x _ hL).mono ?_
  rintro e w' ⟨rfl, HK⟩
  go_wp2_with fail
  refine wp_loop_rounds 1 ?_
  rw [rounds_succ]
  go_wp2
  go_ret2
  exact ⟨rfl, HK⟩

set_option maxHeartbeats 1000000 in
theorem bareF (x : Int) (w : World) : Calls Tryd.prog 29 #[.int .i64 x] w fun e w' => e = .returned (.agg #[.int .i64 x, .int .i64 (-1)]) ∧ Kept w.heap.size w w' := by
  go_enter Tryd.func29, Tryd.ntmps29
  go_wp2
  exact bodyPost_ret (v := .agg #[.int .i64 x, .int .i64 (-1)]) (by simp [results, Tryd.results29, go_sem]) rfl ⟨rfl, Kept.alloc (Kept.refl _ _) (Nat.le_refl _) _⟩

set_option maxHeartbeats 1000000 in
theorem is_nil (w : World) : Calls Tryd.prog 27 #[.nilIface, .agg #[.int .i64 0, .int .i64 (-1)]] w fun e w' => e = .returned (.bool true) ∧ Kept w.heap.size w w' := by
  go_enter Tryd.func27, Tryd.ntmps27
  go_wp2_with fail
  refine (place_nil _).mono ?_
  rintro e w' ⟨rfl, rfl⟩
  go_wp2
  go_ret
  exact ⟨rfl, Kept.alloc (Kept.refl _ _) (Nat.le_refl _) _⟩

set_option maxHeartbeats 1000000 in
theorem is_err (x : Int) (w : World) (hL : Laid w) : Calls Tryd.prog 27 #[.iface 24 (.int .i64 x), .agg #[.int .i64 x, .int .i64 (-1)]] w fun e w' => e = .returned (.bool true) ∧ Kept w.heap.size w w' := by
  have HL := hL.kept (Kept.alloc (Kept.refl _ _) (Nat.le_refl _) (.cells #[.int .i64 x, .int .i64 (-1)] 60))
  go_enter Tryd.func27, Tryd.ntmps27
  go_wp2_with fail
  refine (place_err x _ HL).mono ?_
  rintro e w1 ⟨rfl, hk⟩
  have c0 : w1.cell? ⟨w.heap.size, 0, none⟩ = some (.int .i64 x) := by rw [hk.cell (by simp)]; simp
  have c1 : w1.cell? ⟨w.heap.size, 1, none⟩ = some (.int .i64 (-1)) := by rw [hk.cell (by simp)]; simp
  have HK : Kept w.heap.size w w1 := (Kept.alloc (Kept.refl _ _) (Nat.le_refl _) _).trans (hk.mono (by simp))
  clear hk HL
  go_wp2
  go_ret
  exact ⟨rfl, HK⟩

/-- bare(nil, OK). -/
theorem bare_nil (w : World) : Calls Tryd.prog 8 #[.nilIface, .int .i64 0] w fun e w' => e = .returned (.bool true) ∧ Kept w.heap.size w w' := by
  go_enter Tryd.func8, Tryd.ntmps8
  go_wp2_with fail
  refine (bareF 0 _).mono ?_
  rintro e w1 ⟨rfl, hk1⟩
  go_wp2_with fail
  refine (is_nil _).mono ?_
  rintro e w2 ⟨rfl, hk2⟩
  have HK : Kept w.heap.size w w2 := hk1.trans (hk2.mono hk1.size)
  go_wp2
  go_ret
  exact ⟨rfl, HK⟩
/-- bare(ErrForm, ErrForm). -/
theorem bare_err (x : Int) (w : World) (hL : Laid w) : Calls Tryd.prog 8 #[.iface 24 (.int .i64 x), .int .i64 x] w fun e w' => e = .returned (.bool true) ∧ Kept w.heap.size w w' := by
  go_enter Tryd.func8, Tryd.ntmps8
  go_wp2_with fail
  refine (bareF x _).mono ?_
  rintro e w1 ⟨rfl, hk1⟩
  go_wp2_with fail
  refine (is_err x _ (hL.kept hk1)).mono ?_
  rintro e w2 ⟨rfl, hk2⟩
  have HK : Kept w.heap.size w w2 := hk1.trans (hk2.mono hk1.size)
  go_wp2
  go_ret
  exact ⟨rfl, HK⟩
end Go.Proofs.YticgkjcdhmejcaaDoor
